/-
  slices.SortedFunc over those; makeRoom.
-/
import Derived.Test.YtdchoegaindnbaaPtSort
namespace Go.Proofs.Ytdchoegaindnbaa
open Go.RowKit Go.Maps Go.Shelf
set_option linter.unusedVariables false
set_option maxRecDepth 1000000

set_option maxHeartbeats 2000000 in
theorem sortedf (Bt Bi B room size M : Nat) (time : Int) (fi : Nat) (caps : Array Value) (p : Mk → Bool) (L : List Mk) (w : World) (hL : L.length ≤ 5000)
    (hent : ∀ args w, (callFunc fi args).run Try.prog w = .ok (.enter fi args) w)
    (hbt : w.cell? ⟨Bt, 0, none⟩ = some (.pointer (some ⟨B, 0, none⟩))) (hbi : w.cell? ⟨Bi, 0, none⟩ = some (.func (.func fi) #[] caps))
    (his : ∀ W, Below w.heap.size w W → ∀ m ∈ L, Calls Try.prog fi (#[.pointer (some ⟨m.blk, 0, none⟩)] ++ caps) W fun e w' => e = .returned (.bool (p m)) ∧ ∃ q, w' = W.drewN q)
    (hT : TrB w B room size M time) (hP : PmAt w M L) (hmk : ∀ m ∈ L, MkB w m) (hne : L.filter p ≠ []) :
    Calls Try.prog 42 #[.func (.func 40) #[] #[.pointer (some ⟨Bt, 0, none⟩), .pointer (some ⟨Bi, 0, none⟩)], .func (.func 43) #[] #[]] w fun e W' => ∃ g n c, e = .returned (.slice (some ⟨g, 0, none⟩) n c) ∧ Hid (∃ R : List Mk, R.Perm (L.filter p) ∧ R.Pairwise (fun x y => cmpM x y < 0) ∧ R.length = n ∧ W'.ownsRow w.heap.size 57 1 (.slice (some ⟨g, 0, none⟩) n c) n (R.map ptV) ∧ Below w.heap.size w W') := by
  have hA := aseq Bt Bi B room size M time fi caps p L w hL hent hbt hbi his hT hP
  have hCo : Calls Try.prog 46 #[.func (.func 40) #[] #[.pointer (some ⟨Bt, 0, none⟩), .pointer (some ⟨Bi, 0, none⟩)]] w fun e W' => ∃ v : Value, e = .returned v ∧ Hid (∃ ss : List Mk, ss.Perm (L.filter p) ∧ W'.ownsRow w.heap.size 57 1 v ss.length (ss.map ptV) ∧ (v = .slice none 0 0 ↔ ss = []) ∧ Below w.heap.size w W') := by
    clear hbt hbi his hT hP hmk
    go_enter Try.func46, Try.ntmps46
    go_wp2_with fail
    refine hA.mono ?_
    rintro e w1 ⟨v, rfl, H⟩
    go_wp2_with fail
    go_ret
    exact ⟨v, rfl, H⟩
  have HS : Hid (∀ (W' : World) (g c n : Nat) (ss : List Mk), ss.length = n → ss.Perm (L.filter p) → W'.ownsRow w.heap.size 57 1 (.slice (some ⟨g, 0, none⟩) n c) n (ss.map ptV) → Below w.heap.size w W' → Calls Try.prog 47 #[.slice (some ⟨g, 0, none⟩) n c, .func (.func 43) #[] #[]] W' fun e w' => e = .returned (.tuple #[]) ∧ Hid (∃ R : List Mk, R.Perm ss ∧ R.Pairwise (fun x y => cmpM x y < 0) ∧ w'.ownsRow w.heap.size 57 1 (.slice (some ⟨g, 0, none⟩) n c) n (R.map ptV) ∧ Fb (at1 g) W' w')) := by
    intro W' g c n ss hn hp hrow hb
    subst hn
    have hmem : ∀ m ∈ ss, m ∈ L := fun m hm => (List.mem_filter.1 (hp.mem_iff.1 hm)).1
    have hnd : (ss.map Mk.nm).Nodup := (hp.map _).nodup_iff.2 ((List.filter_sublist.map _).nodup hP.nodup)
    have hl5 : ss.length ≤ 100000 := by
      have := hp.length_eq
      have := List.length_filter_le p L
      omega
    exact sort_mk (ss := ss) hrow (fun e : ss = [] => hne (by rw [e] at hp; exact hp.symm.eq_nil)) hnd (fun m hm => hP.oks m (hmem m hm)) (fun m hm => (hmk m (hmem m hm)).below hb) hl5
  clear hA hbt hbi his hT hP hmk
  go_enter Try.func42, Try.ntmps42
  go_wp2_with fail
  refine hCo.mono ?_
  rintro e w1 ⟨v, rfl, H⟩
  obtain ⟨ss, hp, hrow, hnil, hb⟩ := H.out
  rcases id hrow.2 with ⟨hv, h0⟩ | ⟨g, cap, cur, hv, hB, hg, _⟩
  · exfalso
    have := hnil.1 hv
    rw [this] at hp
    exact hne hp.symm.eq_nil
  subst hv
  obtain ⟨n, hn⟩ : ∃ n, ss.length = n := ⟨_, rfl⟩
  rw [hn] at hrow ⊢
  have hS := HS.out w1 g cap n ss hn hp hrow hb
  have HF : Hid (∀ w2 : World, (∃ R : List Mk, R.Perm ss ∧ R.Pairwise (fun x y => cmpM x y < 0) ∧ w2.ownsRow w.heap.size 57 1 (.slice (some ⟨g, 0, none⟩) n cap) n (R.map ptV) ∧ Fb (at1 g) w1 w2) → ∃ R : List Mk, R.Perm (L.filter p) ∧ R.Pairwise (fun x y => cmpM x y < 0) ∧ R.length = n ∧ w2.ownsRow w.heap.size 57 1 (.slice (some ⟨g, 0, none⟩) n cap) n (R.map ptV) ∧ Below w.heap.size w w2) := by
    rintro w2 ⟨R, r1, r2, r3, r4⟩
    exact ⟨R, r1.trans hp, r2, by rw [r1.length_eq, hn], r3, hb.trans (r4.to (fun x hx => by rw [show x = g from hx]; exact hB) hb.size)⟩
  clear hCo HS H hp hrow hnil hb hg hn
  go_wp2_with fail
  refine hS.mono ?_
  rintro e w2 ⟨rfl, H2⟩
  have HE := hid (HF.out _ H2.out)
  clear hS HF H2
  go_wp2_with fail
  go_ret
  exact ⟨_, _, _, rfl, HE⟩
/-- What is left when so many of the marks that were used the longest ago went. -/
def Mr (L : List Mk) (T : Int) (n : Nat) (L' : List Mk) : Prop := (n = 0 ∧ L' = L) ∨ ∃ R : List Mk, R.Perm (L.filter fun m => decide (m.used < T)) ∧ R.Pairwise (fun x y => cmpM x y < 0) ∧ L' = butS L (R.take n)
/-- makeRoom on its way: these marks have gone. -/
structure RmI (W : World) (B room size M : Nat) (T : Int) (L : List Mk) (g : Nat) (v : Value) (n : Nat) (R pre : List Mk) (W' : World) : Prop where
  obj : TrB W' B room size M T
  map : PmAt W' M (butS L pre)
  mks : ∀ m ∈ L, MkB W' m
  b0 : W'.cell? ⟨g, 0, none⟩ = some (.pointer (some ⟨B, 0, none⟩))
  row : W'.ownsRow g 57 1 v n (R.map ptV)
  fb : Fb (trF B M L) W W'
theorem butS_take {L R : List Mk} {k : Nat} (h : k < R.length) : butS L (R.take (k + 1)) = butN (butS L (R.take k)) R[k].nm := by
  rw [List.take_succ_eq_append_getElem h, butS_snoc]
set_option maxHeartbeats 8000000 in
theorem room_any {W : World} {B room size M : Nat} {T : Int} {L : List Mk} (h : TrAt W B room size M T L) (c : Nat) (hc : c ≤ 5000) (hold : L.length + c - room ≤ (L.filter fun m => decide (m.used < T)).length) :
    Calls Try.prog 31 #[.pointer (some ⟨B, 0, none⟩), .int .i64 c] W fun e w' => e = .returned (.tuple #[]) ∧ Hid (∃ L', TrO W B room size M L T L' w' ∧ Mr L T (L.length + c - room) L') := by
  obtain ⟨g, Hg⟩ : ∃ g, Hid (W.heap.size = g) := ⟨_, rfl⟩
  obtain ⟨w1, hw1⟩ : ∃ w1, w1 = W.alloc (.cells #[.pointer (some ⟨B, 0, none⟩)] 23) := ⟨_, rfl⟩
  have hb1 : Below W.heap.size W w1 := by rw [hw1]; exact (Below.refl _ _).alloc (Nat.le_refl _) _
  have t1 := h.below hb1
  have e0 : w1.cell? ⟨W.heap.size, 0, none⟩ = some (.pointer (some ⟨B, 0, none⟩)) := by
    have : w1.heap[W.heap.size]? = some (.cells #[.pointer (some ⟨B, 0, none⟩)] 23 (0, 0)) := by rw [hw1]; exact heap_alloc_new W _
    rw [cell_of_row _ _ _ _ _ _ this]; rfl
  have s1 : w1.heap.size = W.heap.size + 1 := by rw [hw1]; simp
  have c0 := t1.obj.cells.1
  have c2 := t1.obj.cells.2.2.1
  have hl := fun ty => t1.map.len ty
  have hLl : L.length ≤ 4096 := Nat.le_trans h.len h.rm.2
  have hrm := h.rm
  have HT := hid t1
  have HL := hid fun (j : Nat) (hj : trF B M L j) => h.lts hj
  have HH := hid h
  have HB1 := hid hb1
  have hbq : ∀ q : Nat, Below W.heap.size W (w1.drewN q) := fun q => hb1.trans ⟨rfl, rfl, rfl, Nat.le_refl _, fun _ _ => rfl⟩
  obtain ⟨nl, hnl⟩ : ∃ nl, L.length = nl := ⟨_, rfl⟩
  rw [hnl] at hl hLl hold
  have HNl := hid hnl
  clear h t1 hb1
  rw [hnl]
  clear hnl
  rw [Hg.out] at e0
  have hlq := fun ty (q : Nat) => (HT.out.map.same (W' := w1.drewN q) rfl).len ty
  rw [HNl.out] at hlq
  by_cases hov : nl + c ≤ room
  · have hz : nl + c - room = 0 := by omega
    rw [hz]
    have g1 : (nl : Int) + (c : Int) - (room : Int) ≤ 0 := by omega
    have HE : Hid (∀ q, ∃ L', TrO W B room size M L T L' (w1.drewN q) ∧ Mr L T 0 L') := fun q => ⟨L, HH.out.stay (hbq q), .inl ⟨rfl, rfl⟩⟩
    clear HT HH HB1 hbq hold
    go_enter Try.func31, Try.ntmps31
    go_wp2_with fail
    rw [← hw1]
    rw [Hg.out]
    clear hw1
    go_quiet ((fail))
    go_wp2_with fail
    refine bodyPost_ret (results_none rfl _ _ _) rfl ?_
    exact ⟨rfl, HE.out _⟩
  · have g1 : ¬ (nl : Int) + (c : Int) - (room : Int) ≤ 0 := by omega
    obtain ⟨ov, hovn⟩ : ∃ ov, nl + c - room = ov := ⟨_, rfl⟩
    rw [hovn] at hold ⊢
    have g2 : (nl : Int) + (c : Int) - (room : Int) = (ov : Int) := by omega
    have HOv := hid hovn
    clear hovn
    go_enter Try.func31, Try.ntmps31
    go_wp2_with fail
    rw [← hw1]
    rw [Hg.out]
    clear hw1
    go_quiet ((fail))
    go_wp2_with fail
    have HT2 : Hid (TrAt (w1.drewN nq) B room size M T L) := HT.out.same fun _ _ => rfl
    have HB2 : Hid (Below W.heap.size W (w1.drewN nq)) := hbq nq
    have s2 : (w1.drewN nq).heap.size = W.heap.size + 1 := s1
    have e2 : (w1.drewN nq).cell? ⟨g, 0, none⟩ = some (.pointer (some ⟨B, 0, none⟩)) := e0
    clear HT HB1 hbq hlq hl c0 c2 e0 s1
    generalize w1.drewN nq = w2 at *
    refine (those_any B 41 #[.pointer (some ⟨g, 0, none⟩)] w2).mono ?_
    rintro e w3 ⟨rfl, hw3⟩
    have hb3 : Below w2.heap.size w2 w3 := by rw [hw3]; exact ((Below.refl _ _).alloc (Nat.le_refl _) _).alloc (by simp) _
    have s3 : w3.heap.size = W.heap.size + 3 := by rw [hw3]; simp [s2]
    have q3 : w3.cell? ⟨w2.heap.size, 0, none⟩ = some (.pointer (some ⟨B, 0, none⟩)) := by
      have : w3.heap[w2.heap.size]? = some (.cells #[.pointer (some ⟨B, 0, none⟩)] 23 (0, 0)) := by rw [hw3]; exact (Below.heap_alloc _ _ _ (by simp)).trans (heap_alloc_new w2 _)
      rw [cell_of_row _ _ _ _ _ _ this]; rfl
    have q4 : w3.cell? ⟨w2.heap.size + 1, 0, none⟩ = some (.func (.func 41) #[] #[.pointer (some ⟨g, 0, none⟩)]) := by
      have : w3.heap[w2.heap.size + 1]? = some (.cells #[.func (.func 41) #[] #[.pointer (some ⟨g, 0, none⟩)]] 60 (0, 0)) := by
        rw [hw3]
        have := heap_alloc_new (w2.alloc (.cells #[.pointer (some ⟨B, 0, none⟩)] 23)) (.cells #[.func (.func 41) #[] #[.pointer (some ⟨g, 0, none⟩)]] 60)
        rwa [World.size_alloc] at this
      rw [cell_of_row _ _ _ _ _ _ this]; rfl
    have t3 := HT2.out.below hb3
    have e3 : w3.cell? ⟨g, 0, none⟩ = some (.pointer (some ⟨B, 0, none⟩)) := (hb3.cell (World.block_lt_of_cell? _ _ e2)).trans e2
    have hS := sortedf w2.heap.size (w2.heap.size + 1) B room size M T 41 #[.pointer (some ⟨g, 0, none⟩)] (fun m => decide (m.used < T)) L w3 (by have := HNl.out; omega) (enters_of Try.func41 (by kernel_rfl) rfl) q3 q4
      (fun W' hb m hm => is_old ((t3.mks m hm).below hb) ((hb.cell (World.block_lt_of_cell? _ _ e3)).trans e3) (t3.obj.below hb)) t3.obj t3.map t3.mks (fun e => by rw [e] at hold; simp at hold; omega)
    have HB3 : Hid (Below W.heap.size W w3) := HB2.out.trans (hb3.mono HB2.out.size)
    have HT3 := hid t3
    have HE3 := hid e3
    have HS2 := hid s2
    clear hw3 hb3 q3 q4 t3 e3 e2 HT2 HB2 s2 s3
    go_wp2_with fail
    with_reducible refine hS.mono ?_
    rintro e w4 ⟨gr, n, cp, rfl, H4⟩
    obtain ⟨R, r1, r2, r3, r4, r5⟩ := H4.out
    have hnov : ov ≤ n := by rw [← r3, r1.length_eq]; exact hold
    have hcpn : n ≤ cp ∧ cp ≤ 9223372036854775807 := by
      rcases id r4.2 with ⟨hv, _⟩ | ⟨g', cap', cur, hv, hB, hg, q1, q2, _⟩
      · cases hv
      · cases hv
        exact ⟨q1, by unfold maxLen at q2; omega⟩
    have HI : Hid (RmI W B room size M T L g (.slice (some ⟨gr, 0, none⟩) n cp) n R (R.take 0) w4) := by
      have t4 := HT3.out.below r5
      refine ⟨t4.obj, t4.map, t4.mks, (r5.cell (World.block_lt_of_cell? _ _ HE3.out)).trans HE3.out, ⟨r4.1, r4.2.imp id ?_⟩, Fb.of (HB3.out.trans (r5.mono HB3.out.size))⟩
      rintro ⟨g', cap', cur, q1, q2, q3⟩
      exact ⟨g', cap', cur, q1, by have := Hg.out; have := HB3.out.size; omega, q3⟩
    have HR := hid (And.intro r1 (And.intro r2 r3))
    have hn9 : n ≤ 5000 := by
      have := List.length_filter_le (fun m : Mk => decide (m.used < T)) L
      have := r1.length_eq
      have := HNl.out
      omega
    obtain ⟨k1, k2⟩ := hcpn
    clear hS H4 r1 r2 r3 r4 r5 HT3 HE3 HB3
    go_wp2_with fail
    go_loopw [30] (fun z W' => ∃ k : Nat, k ≤ ov ∧ z = .int .i64 k ∧ Hid (RmI W B room size M T L g (.slice (some ⟨gr, 0, none⟩) n cp) n R (R.take k) W')) (fun z _ => ov - (intOf z).toNat)
    case atStart => exact ⟨0, by omega, rfl, HI⟩
    case round =>
    obtain ⟨k, hk, rfl, HK⟩ := hrel
    rename World => w5
    clear HI
    by_cases hlt : k < ov
    · have hkR : k < R.length := by rw [HR.out.2.2]; omega
      have hmem : R[k] ∈ L := (List.mem_filter.1 (HR.out.1.mem_iff.1 (List.getElem_mem hkR))).1
      have hrc : w5.cell? ⟨gr, k, none⟩ = some (ptV R[k]) := by
        have := World.ownsRow.cellAt HK.out.row k (by omega)
        rw [this, List.getElem?_map, List.getElem?_eq_getElem hkR]
        rfl
      have hok := HH.out.map.oks _ hmem
      have hcn := (HK.out.mks _ hmem).cells.1
      have HTk := hid (butS_take (L := L) hkR)
      generalize R[k] = m at *
      unfold ptV at hrc
      have b0 := HK.out.b0
      have c2 := HK.out.obj.cells.2.2.1
      obtain ⟨w6, hd, hP6, hF6⟩ := (HK.out.map.same (W' := w5.drew) rfl).drop m.bytes hok.len 0
      have HN : Hid (RmI W B room size M T L g (.slice (some ⟨gr, 0, none⟩) n cp) n R (R.take (k + 1)) w6) := by
        have hMl := HL.out M (.inr (.inl rfl))
        have hgM : g ≠ M := by have := Hg.out; omega
        refine ⟨HK.out.obj.same (hF6.block _ HK.out.obj.lt fun e => HH.out.bm e), by rw [HTk.out]; exact hP6, fun y hy => (HK.out.mks y hy).same (hF6.block _ (HK.out.mks y hy).lt fun e => HH.out.mm (HH.out.mks y hy) e), hF6.cell (w := w5.drew) HK.out.b0 hgM, own_blk HK.out.row fun b hb => hF6.block b ?_ fun e => ?_, HK.out.fb.drew.trans hF6 fun j hj => .inl (.inr (.inl hj))⟩
        · exact (HK.out.row.lt b hb).2
        · have e' : b = M := e
          have := (HK.out.row.lt b hb).1
          have := Hg.out
          omega
      have g3 : (k : Int) < (ov : Int) := by omega
      clear HK hP6 hF6 hok
      go_wp2_with fail
      go_region
      all_goals
        go_wp2_with fail
        go_round
        case rel => exact ⟨k + 1, by omega, by go_num, HN⟩
        case measure => simp [intOf]; omega
    · obtain rfl : k = ov := by omega
      have HE : Hid (∃ L', TrO W B room size M L T L' w5 ∧ Mr L T k L') := by
        refine ⟨butS L (R.take k), ⟨HH.out.less HK.out.obj HK.out.map HK.out.mks (fun m hm => ((butS_mem L _ m).1 hm).1) (butS_sub L _).length_le, HK.out.fb, fun m hm => .inl ⟨m, ((butS_mem L _ m).1 hm).1, rfl⟩⟩, .inr ⟨R, HR.out.1, HR.out.2.1, rfl⟩⟩
      clear HK
      go_wp2_with fail
      go_end0
      exact ⟨rfl, HE⟩
end Go.Proofs.Ytdchoegaindnbaa
