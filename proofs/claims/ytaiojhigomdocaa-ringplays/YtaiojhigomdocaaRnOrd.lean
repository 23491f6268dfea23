/-
  slices.Contains over numbers; Order: the nodes round the ring, each once.
-/
import Derived.Test.YtaiojhigomdocaaRnBin
import Derived.OwnWalk
namespace Go.Proofs.Ytaiojhigomdocaa
open Go.RowKit Go.Maps Go.Shelf Go.Sort
set_option linter.unusedVariables false
set_option maxRecDepth 1000000

set_option maxHeartbeats 2000000 in
theorem uidx {W : World} {a : Option Addr} {n cap : Nat} {l : List Int} (h : Reads .u64 W a n cap l) (hn : n ≤ 100000) (x : Int) :
    Calls Try.prog 48 #[.slice a n cap, .int .u64 x] W fun r w' => ∃ q : Int, r = .returned (.int .i64 q) ∧ Hid (0 ≤ q ↔ x ∈ l) ∧ w' = W := by
  have HL : Hid (l.length = n) := h.size
  have HC := hid h.cell
  clear h
  go_enter Try.func48, Try.ntmps48
  go_wp2_with fail
  go_loopw [8] (fun z W' => ∃ k : Nat, k ≤ n ∧ z = .int .i64 k ∧ W' = W ∧ Hid (x ∉ l.take k)) (fun z _ => n - (intOf z).toNat)
  case atStart => exact ⟨0, by omega, rfl, rfl, by unfold Hid; simp⟩
  case round =>
  obtain ⟨k, hk, rfl, rfl, HX⟩ := hrel
  by_cases hkn : k < n
  · have g1 : (k : Int) < (n : Int) := by omega
    obtain ⟨b, off, rfl, hc⟩ := HC.out k hkn
    obtain ⟨y, Hy⟩ : ∃ y, Hid (l[k]? = some y) := ⟨l[k]'(by rw [HL.out]; exact hkn), List.getElem?_eq_getElem _⟩
    rw [Hy.out] at hc
    have hc' : wr.cell? ⟨b, off + k, none⟩ = some (.int .u64 y) := hc
    clear hc
    by_cases e : x = y
    · subst e
      have HM : Hid (x ∈ l) := List.mem_of_getElem? Hy.out
      go_wp2
      go_ret
      exact ⟨k, rfl, by unfold Hid; simp [HM.out], rfl⟩
    · have e' : (x == y) = false := by simp [e]
      have HN : Hid (x ∉ l.take (k + 1)) := by
        unfold Hid
        rw [List.take_add_one, Hy.out]
        simp [HX.out, e]
      go_wp2
      go_round
      case rel => exact ⟨k + 1, by omega, by go_num, by first | rfl | trivial, HN⟩
      case measure => simp [intOf]; omega
  · have g1 : ¬ (k : Int) < (n : Int) := by omega
    have HN : Hid (x ∉ l) := by
      have := HX.out
      rw [List.take_of_length_le (by rw [HL.out]; omega)] at this
      exact this
    go_wp2
    go_ret
    exact ⟨-1, rfl, by unfold Hid; simp [HN.out], rfl⟩
theorem ucont {W : World} {a : Option Addr} {n cap : Nat} {l : List Int} (h : Reads .u64 W a n cap l) (hn : n ≤ 100000) (x : Int) :
    Calls Try.prog 34 #[.slice a n cap, .int .u64 x] W fun r w' => r = .returned (.bool (decide (x ∈ l))) ∧ w' = W := by
  have hI := uidx h hn x
  obtain ⟨c, Hc⟩ : ∃ c, Hid (decide (x ∈ l) = c) := ⟨_, rfl⟩
  rw [Hc.out]
  clear h
  go_enter Try.func34, Try.ntmps34
  go_wp2_with fail
  refine hI.mono ?_
  rintro r w1 ⟨q, rfl, HQ, rfl⟩
  clear hI
  have HE : Hid (decide (0 ≤ q) = c) := by
    unfold Hid
    rw [← Hc.out]
    exact decide_eq_decide.2 HQ.out
  go_wp2
  go_ret
  exact ⟨by rw [← HE.out]; rfl, rfl⟩
/-- The first of each. -/
def frs (ys : List Int) : List Int := ys.foldl (fun acc x => if x ∈ acc then acc else acc ++ [x]) []
theorem frs_snoc (ys : List Int) (x : Int) : frs (ys ++ [x]) = if x ∈ frs ys then frs ys else frs ys ++ [x] := by
  unfold frs
  rw [List.foldl_append]
  rfl
theorem snoc_ind {p : List Int → Prop} (h0 : p []) (h1 : ∀ ys y, p ys → p (ys ++ [y])) (ys : List Int) : p ys := by
  have h : ∀ zs : List Int, p zs.reverse := by
    intro zs
    induction zs with
    | nil => exact h0
    | cons z zs ih => rw [List.reverse_cons]; exact h1 _ _ ih
  have := h ys.reverse
  rwa [List.reverse_reverse] at this
theorem sub_all : ∀ (l L : List Int), l.Nodup → (∀ x ∈ l, x ∈ L) → L.length ≤ l.length → ∀ y ∈ L, y ∈ l
  | [], L, _, _, h, y, hy => by
    have : L = [] := List.eq_nil_of_length_eq_zero (by simpa using h)
    rw [this] at hy; exact hy
  | x :: l, L, hnd, hs, h, y, hy => by
    rw [List.nodup_cons] at hnd
    by_cases e : y = x
    · rw [e]; simp
    · have hx : x ∈ L := hs x (by simp)
      have hl := List.length_erase_of_mem hx
      have := sub_all l (L.erase x) hnd.2 (fun z hz => (List.mem_erase_of_ne (fun e : z = x => hnd.1 (by rw [← e]; exact hz))).2 (hs z (by simp [hz]))) (by simp at h; omega) y ((List.mem_erase_of_ne e).2 hy)
      simp [this]
theorem frs_nil : frs [] = [] := rfl
theorem frs_mem (ys : List Int) : ∀ x : Int, x ∈ frs ys ↔ x ∈ ys := by
  refine snoc_ind (p := fun ys => ∀ x : Int, x ∈ frs ys ↔ x ∈ ys) ?_ ?_ ys
  · simp [frs]
  · intro ys y ih x
    rw [frs_snoc]
    split
    · rename_i h
      rw [ih, List.mem_append]
      constructor
      · exact .inl
      · rintro (h' | h')
        · exact h'
        · simp at h'; rw [h']; exact (ih y).1 h
    · rw [List.mem_append, ih, List.mem_append]
theorem frs_nodup (ys : List Int) : (frs ys).Nodup := by
  refine snoc_ind (p := fun ys => (frs ys).Nodup) ?_ ?_ ys
  · simp [frs]
  · intro ys y ih
    rw [frs_snoc]
    split
    · exact ih
    · rename_i h
      exact List.nodup_append.2 ⟨ih, by simp, fun a ha b hb => by simp at hb; subst hb; exact fun e => h (e ▸ ha)⟩
theorem frs_app {ys : List Int} (zs : List Int) : (∀ z ∈ zs, z ∈ frs ys) → frs (ys ++ zs) = frs ys := by
  refine snoc_ind (p := fun zs => (∀ z ∈ zs, z ∈ frs ys) → frs (ys ++ zs) = frs ys) ?_ ?_ zs
  · simp
  · intro zs z ih h
    rw [← List.append_assoc, frs_snoc, ih fun w hw => h w (by simp [hw]), if_pos (h z (by simp))]
/-- When all have come the rest says nothing new. -/
theorem frs_stop {ys L : List Int} {k : Nat} (hL : L.Nodup) (hs : ∀ y ∈ ys, y ∈ L) (hl : (frs (ys.take k)).length = L.length) : frs ys = frs (ys.take k) := by
  have hall := sub_all (frs (ys.take k)) L (frs_nodup _) (fun x hx => hs x (List.mem_of_mem_take ((frs_mem _ _).1 hx))) (by omega)
  conv => lhs; rw [← List.take_append_drop k ys]
  exact frs_app _ fun z hz => hall z (hs z (List.mem_of_mem_drop hz))
/-- The points from the c-th on, and round. -/
def rotP (P : List (Int × Int)) (c : Nat) : List (Int × Int) := P.drop c ++ P.take c
theorem rot_get {P : List (Int × Int)} {c k : Nat} (hc : c ≤ P.length) (hk : k < P.length) : (rotP P c)[k]? = P[(c + k) % P.length]? := by
  unfold rotP
  by_cases h : c + k < P.length
  · rw [List.getElem?_append_left (by simp; omega), List.getElem?_drop, Nat.mod_eq_of_lt h]
  · rw [List.getElem?_append_right (by simp; omega), List.length_drop, List.getElem?_take_of_lt (by omega)]
    congr 1
    rw [Nat.mod_eq_sub_mod (by omega), Nat.mod_eq_of_lt (by omega)]
    omega
theorem rot_mem {P : List (Int × Int)} {c : Nat} {p : Int × Int} : p ∈ rotP P c ↔ p ∈ P := by
  unfold rotP
  rw [List.mem_append]
  conv => rhs; rw [← List.take_append_drop c P, List.mem_append]
  exact or_comm
theorem nodes_in {W : World} {B : Nat} {s : Int} {e M : Nat} {v : Value} {L : List Int} {P : List (Int × Int)} (h : RnAt W B s e M v L P) {p : Int × Int} (hp : p ∈ P) : p.2 ∈ L := by
  have := h.perm.mem_iff.1 hp
  rw [List.mem_flatMap] at this
  obtain ⟨x, hx, hpx⟩ := this
  unfold ptsOf at hpx
  rw [List.mem_map] at hpx
  obtain ⟨k, _, rfl⟩ := hpx
  exact hx
/-- The nodes from where a key stands on. -/
noncomputable def ordL (s : Int) (P : List (Int × Int)) (x : Int) : List Int := frs ((rotP P (cntP P (atZ s x, 0))).map (·.2))
set_option maxHeartbeats 4000000 in
theorem order_any {W : World} {B : Nat} {s : Int} {e M : Nat} {v : Value} {L : List Int} {P : List (Int × Int)} (h : RnAt W B s e M v L P) (x : Int) :
    Calls Try.prog 20 #[.pointer (some ⟨B, 0, none⟩), .int .u64 x] W fun r w' => ∃ u : Value, r = .returned u ∧ Hid (w'.ownsRow W.heap.size 22 1 u (ordL s P x).length ((ordL s P x).map (Value.int .u64)) ∧ RowKit.Below W.heap.size W w') := by
  have hM := made_yes h.obj.cells.2.1 h.each.1
  have hS := stands_any h x
  obtain ⟨c, Hc⟩ : ∃ c, Hid (cntP P (atZ s x, 0) = c) := ⟨_, rfl⟩
  rw [Hc.out] at hS
  obtain ⟨N, HN⟩ : ∃ N, Hid (P.length = N) := ⟨_, rfl⟩
  have hcN : c ≤ N := by rw [← Hc.out, ← HN.out]; exact cnt_le _ _
  have hN4 : N ≤ 4096 := by rw [← HN.out]; exact h.pmax
  obtain ⟨ys, Hys⟩ : ∃ ys, Hid ((rotP P c).map (·.2) = ys ∧ ys.length = N) := ⟨_, rfl, by rw [List.length_map, ← HN.out]; unfold rotP; simp; omega⟩
  obtain ⟨R, HR⟩ : ∃ R, Hid (ordL s P x = R ∧ frs ys = R) := ⟨_, rfl, by unfold ordL; rw [Hc.out, Hys.out.1]⟩
  rw [HR.out.1]
  obtain ⟨ao, cap, hv⟩ : ∃ ao cap, v = .slice ao N cap := by
    rcases h.row.isSl with ⟨rfl, rfl⟩ | ⟨g, cap, rfl, _⟩
    · exact ⟨none, 0, by rw [← HN.out]; rfl⟩
    · exact ⟨some ⟨g, 0, none⟩, cap, by rw [HN.out]⟩
  subst hv
  have HP : Hid (∀ W' : World, RowKit.Below W.heap.size W W' → ∀ k, k < N → ∃ g y, ao = some ⟨g, 0, none⟩ ∧ ys[k]? = some y ∧ W'.cell? ⟨g, (c + k) % N * 2 + 1, none⟩ = some (.int .u64 y)) := by
    intro W' hb k hk
    have h2 := (h.below hb).row
    have hlt : (c + k) % N < P.length := by rw [HN.out]; exact Nat.mod_lt _ (by omega)
    have hg := rot_get (P := P) (c := c) (k := k) (by rw [HN.out]; exact hcN) (by rw [HN.out]; exact hk)
    rw [HN.out, List.getElem?_eq_getElem hlt] at hg
    rcases h2.isSl with ⟨h1, h0⟩ | ⟨g, cap', h1, _⟩
    · rw [h0] at hlt; simp at hlt
    · obtain ⟨rfl, _, rfl⟩ : ao = some ⟨g, 0, none⟩ ∧ N = P.length ∧ cap = cap' := by simpa using h1
      refine ⟨g, P[(c + k) % N].2, rfl, ?_, h2.cell (flatP_get P _ _ (List.getElem?_eq_getElem hlt)).2⟩
      rw [← Hys.out.1, List.getElem?_map, hg]
      rfl
  have HK : Hid (∀ W' : World, RowKit.Below W.heap.size W W' → W'.cell? ⟨B, 2, none⟩ = some (.map (some M)) ∧ W'.cell? ⟨B, 3, none⟩ = some (.slice ao N cap) ∧ ∀ ty, (Builtin.len_ #[55] ty #[.map (some M)]).run Try.prog W' = .ok (.int .i64 L.length) W') := fun W' hb => ⟨(h.below hb).obj.cells.2.2.1, (h.below hb).obj.cells.2.2.2, fun ty => (h.below hb).map.len ty⟩
  have HST : Hid (∀ k, k ≤ N → (k = N ∨ (frs (ys.take k)).length = L.length) → R = frs (ys.take k)) := by
    rintro k hk (rfl | hl)
    · rw [List.take_of_length_le (by rw [Hys.out.2]; exact Nat.le_refl _), HR.out.2]
    · obtain ⟨_, _, _, _, hnd, _⟩ := h.map
      rw [← HR.out.2]
      refine frs_stop hnd (fun y hy => ?_) hl
      rw [← Hys.out.1, List.mem_map] at hy
      obtain ⟨p, hp, rfl⟩ := hy
      exact nodes_in h (rot_mem.1 hp)
  have hL64 := h.len
  obtain ⟨nl, Hnl⟩ : ∃ nl, Hid (L.length = nl) := ⟨_, rfl⟩
  rw [Hnl.out] at HK HST hL64
  obtain ⟨i0, hi, hz0, hz1, hz2⟩ := Go.info_parts Try.infoU
  have HSub : Hid (∀ k, (frs (ys.take k)).length ≤ 4096) := by
    intro k
    have h1 : ∀ zs : List Int, (frs zs).length ≤ zs.length := snoc_ind (p := fun zs => (frs zs).length ≤ zs.length) (by simp [frs]) (fun zs z ih => by
      rw [frs_snoc]
      split
      · simp; omega
      · simp; omega)
    have := h1 (ys.take k)
    rw [List.length_take, Hys.out.2] at this
    omega
  clear h HR Hc HN Hys
  go_enter Try.func20, Try.ntmps20
  go_wp2_with fail
  refine hM.mono ?_
  rintro r w1 ⟨rfl, rfl⟩
  clear hM
  go_wp2_with fail
  refine hS.mono ?_
  rintro r w2 ⟨rfl, HB2⟩
  clear hS
  have c3 := (HK.out _ HB2.out).2.1
  go_wp2_with fail
  go_loopw [5, 20] (fun y z W' => ∃ (k : Nat) (u : Value), k ≤ N ∧ y = u ∧ z = .int .i64 k ∧ Hid (W'.ownsRow w1.heap.size 22 1 u (frs (ys.take k)).length ((frs (ys.take k)).map (Value.int .u64)) ∧ RowKit.Below w1.heap.size w1 W')) (fun _ z _ => N - (intOf z).toNat)
  case atStart => exact ⟨0, .slice none 0 0, by omega, rfl, rfl, ⟨World.ownsRow_nil _ _ _ _, HB2.out⟩⟩
  case round =>
  obtain ⟨k, u, hk, hu, rfl, HI⟩ := hrel
  have hu' := hu.symm
  subst hu'
  rename World => w3
  clear HB2 c3
  by_cases hkN : k < N
  · have g1 : (k : Int) < (N : Int) := by omega
    obtain ⟨g, y, rfl, hy, cy⟩ := HP.out _ HI.out.2 k hkN
    obtain ⟨q, hq⟩ : ∃ q : Nat, (c : Int) + (k : Int) = (q : Int) := ⟨c + k, by omega⟩
    obtain ⟨id, Hid1⟩ : ∃ id, Hid ((c + k) % N = id ∧ id < N) := ⟨_, rfl, Nat.mod_lt _ (by omega)⟩
    rw [Hid1.out.1] at cy
    have hwq : IntKind.i64.wrap (q : Int) = (q : Int) := wrap64_in (by omega) (by omega)
    have hrem : (q : Int).tmod (N : Int) = (id : Int) := by
      rw [Int.tmod_eq_emod_of_nonneg (by omega), ← Hid1.out.1, show c + k = q by omega]
      first | rfl | exact (Int.natCast_emod q N).symm | exact (Int.ofNat_emod q N).symm | norm_cast
    have hN0 : ¬ (N : Int) = 0 := by omega
    have hN0' : ((N : Int) == 0) = false := by simp; omega
    have bid : (id : Int) < (N : Int) := by have := Hid1.out.2; omega
    have hwid : IntKind.i64.wrap (id : Int) = (id : Int) := wrap64_in (by omega) (by omega)
    have c3 := (HK.out _ HI.out.2).2.1
    obtain ⟨acc, HAc⟩ : ∃ acc, Hid (frs (ys.take k) = acc ∧ acc.length ≤ 4096) := ⟨_, rfl, HSub.out k⟩
    have HNx : Hid (frs (ys.take (k + 1)) = if y ∈ acc then acc else acc ++ [y]) := by
      unfold Hid
      rw [List.take_add_one, hy]
      show frs (ys.take k ++ [y]) = _
      rw [frs_snoc, HAc.out.1]
    rw [HAc.out.1] at HI
    have HB3 := hid HI.out.2
    have HO3 := hid HI.out.1
    clear HI hy
    go_wp2_with fail
    go_quiet (fail)
    have HB4 : Hid (RowKit.Below w1.heap.size w1 (w3.drewN nq)) := HB3.out.trans ⟨rfl, rfl, rfl, Nat.le_refl _, fun _ _ => rfl⟩
    have HO4 : Hid ((w3.drewN nq).ownsRow w1.heap.size 22 1 u acc.length (acc.map (Value.int .u64))) := HO3.out
    clear HB3 HO3 c3 cy
    generalize w3.drewN nq = w4 at *
    obtain ⟨n1, Hn1⟩ : ∃ n1, Hid (acc.length = n1) := ⟨_, rfl⟩
    have hn1 : n1 ≤ 4096 := by rw [← Hn1.out]; exact HAc.out.2
    rw [Hn1.out] at HO4
    obtain ⟨a1, cap1, rfl, hr⟩ := Reads.own (k := .u64) HO4.out
    have hC := ucont hr (by omega) y
    obtain ⟨cc, Hcc⟩ : ∃ cc, Hid (decide (y ∈ acc) = cc) := ⟨_, rfl⟩
    rw [Hcc.out] at hC
    clear hr
    go_wp2_with fail
    refine hC.mono ?_
    rintro r w5 ⟨rfl, rfl⟩
    clear hC
    go_upto_if 42 with fail
    go_cut [5] (fun z wx => ∃ (a2 : Option Addr) (n2 cap2 : Nat), z = .slice a2 n2 cap2 ∧ Hid ((frs (ys.take (k + 1))).length = n2) ∧ Hid (wx.ownsRow w1.heap.size 22 1 (.slice a2 n2 cap2) n2 ((frs (ys.take (k + 1))).map (Value.int .u64)) ∧ RowKit.Below w1.heap.size w1 wx))
    case first =>
      cases cc with
      | true =>
        have hin : y ∈ acc := of_decide_eq_true Hcc.out
        have HE : Hid (frs (ys.take (k + 1)) = acc) := by
          have := HNx.out
          rw [if_pos hin] at this
          exact this
        go_wp2_with fail
        go_meet
        exact ⟨a1, n1, cap1, rfl, by rw [HE.out]; exact Hn1, by rw [HE.out]; exact ⟨HO4.out, HB4.out⟩⟩
      | false =>
        have hin : y ∉ acc := of_decide_eq_false Hcc.out
        have HE : Hid (frs (ys.take (k + 1)) = acc ++ [y]) := by
          have := HNx.out
          rw [if_neg hin] at this
          exact this
        have HNw := hid (news_one .u64 y w5 22)
        have HOa := hid (HO4.out.alloc (.cells #[.int .u64 y] 22))
        go_wp2_with (at_builtin; refine wpList_append_own _ rfl _ _ 31 rfl w1.heap.size 22 i0 (.int .u64 0) 1 8 Try.underlying31 hi hz0 hz1 hz2 rfl (by decide) _ n1 _ rfl HOa.out ⟨w5.heap.size, 0, none⟩ 1 1 [.int .u64 y] rfl rfl HNw.out (one_cell .u64 y) (by unfold maxLen; omega) (by omega) (by have := HB4.out.size; simp; omega) ?_; intro v' w6 q1 q2 q3)
        have HF : Hid (∃ (a2 : Option Addr) (cap2 : Nat), v' = .slice a2 (n1 + 1) cap2 ∧ w6.ownsRow w1.heap.size 22 1 (.slice a2 (n1 + 1) cap2) (n1 + 1) ((acc ++ [y]).map (Value.int .u64)) ∧ RowKit.Below w1.heap.size w1 w6) := by
          have q1' : w6.ownsRow w1.heap.size 22 1 v' (n1 + 1) ((acc ++ [y]).map (Value.int .u64)) := by simpa using q1
          obtain ⟨a2, cap2, hv, _⟩ := Reads.own (k := .u64) q1'
          have hb : RowKit.Below w1.heap.size w1 w6 := (HB4.out.alloc HB4.out.size _).grown q2 (by have := HB4.out.size; simp; omega) fun j hj => (HOa.out.lt j (by first | exact hj | exact hj.symm)).1
          exact ⟨a2, cap2, hv, hv ▸ q1', hb⟩
        clear q1 q2 q3 HNw HOa
        obtain ⟨a2, cap2, rfl, HF2⟩ := HF.out
        clear HF
        go_wp2_with fail
        go_meet
        exact ⟨a2, n1 + 1, cap2, rfl, by unfold Hid; rw [HE.out, List.length_append, Hn1.out]; rfl, by rw [HE.out]; exact HF2⟩
    case rest =>
    obtain ⟨a2, n2, cap2, rfl, Hn2, HW⟩ := hcut
    rename World => w7
    have c2 := (HK.out _ HW.out.2).1
    have hln := fun ty => (HK.out _ HW.out.2).2.2 ty
    clear HO4 HB4 HNx HAc Hcc Hn1
    by_cases hnl : n2 = nl
    · have g2 : ((n2 : Int) == (nl : Int)) = true := by simp; omega
      have HE : Hid (R = frs (ys.take (k + 1))) := HST.out (k + 1) (by omega) (.inr (by rw [Hn2.out, hnl]))
      subst hnl
      go_wp2_with fail
      go_ret
      exact ⟨.slice a2 n2 cap2, rfl, by rw [HE.out, Hn2.out]; exact HW.out⟩
    · have g2 : ((n2 : Int) == (nl : Int)) = false := by simp; omega
      have g3 : ¬ (n2 : Int) = (nl : Int) := by omega
      go_wp2_with fail
      go_round
      case rel => exact ⟨k + 1, _, by omega, rfl, by go_num, by unfold Hid; rw [Hn2.out]; exact HW.out⟩
      case measure => simp [intOf]; omega
  · have g1 : ¬ (k : Int) < (N : Int) := by omega
    have HE : Hid (R = frs (ys.take k)) := HST.out k hk (.inl (by omega))
    go_wp2_with fail
    go_ret
    exact ⟨_, rfl, by rw [HE.out]; exact HI.out⟩
end Go.Proofs.Ytaiojhigomdocaa
