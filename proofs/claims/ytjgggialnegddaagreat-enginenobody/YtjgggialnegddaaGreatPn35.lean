/-
  The texts KvW1, KvW2, KvW3 of this proof.
-/
import Derived.Test.YtjgggialnegddaaGreatPn34
import Derived.Deep.QuietTactic
import Derived.BigQuiet
import Derived.Deep.RegionHeld3
set_option linter.unusedVariables false
set_option maxRecDepth 1000000
namespace Go.Proofs.YtjgggialnegddaaGreat
open Go.RowKit Go.Maps
section
variable {B bb r : Nat} {pp : Option Addr} {L : Lay} {c : Cf} {pg sz : Nat} {tm : Int} {T : List (List Int)}
theorem kmade_yes {W : World} (h : KvB W B bb r pp L c pg sz tm T) : Calls Tryz.prog 60 #[.pointer (some ⟨B, 0, none⟩)] W fun e w' => e = .returned (.bool true) ∧ W = w' := by
 obtain ⟨g, rfl⟩ := h.pool.ptr
 have c1 := h.cells.2.1
 clear h
 go_enter Tryz.func60, Tryz.ntmps60
 go_wp2
 go_ret
 exact ⟨rfl, rfl⟩
noncomputable def lfB (T : List (List Int)) (sz : Nat) (x : List Int) : Bool := open Classical in decide (∀ ch : List Int, ch.length = sz → x ++ ch ∉ T)
theorem lfB_iff {T : List (List Int)} {sz : Nat} {x : List Int} : lfB T sz x = true ↔ ∀ ch : List Int, ch.length = sz → x ++ ch ∉ T := by unfold lfB; simp
theorem kleaf_any {W : World} (h : KvB W B bb r pp L c pg sz tm T) (hz : sz ≤ 16) {x : List Int} (hx : InT T x) : Calls Tryz.prog 156 #[.pointer (some ⟨L.nd x, 0, none⟩)] W fun e w' => e = .returned (.bool (lfB T sz x)) ∧ W = w' := by
 obtain ⟨s, hs, h1, h2⟩ := (h.tree.map x hx).len 3
 have hb : lfB T sz x = decide (s = 0) := by
  rw [Bool.eq_iff_iff, lfB_iff, decide_eq_true_iff, h2]
  constructor
  ·intro hn v l hv
   exact chF_none hn v
  ·intro hn ch hc hm
   have ht : Tk ch := fun y hy => h.tok _ hm y (List.mem_append_right _ hy)
   obtain ⟨l, hl⟩ := ht.key (by omega)
   have := hn _ l hl
   rw [chF_yes hc hm] at this
   cases this
 rw [hb]
 have c17 := (h.ncells hz hx).2.1
 clear h hb h1 h2
 go_enter Tryz.func156, Tryz.ntmps156
 go_wp2
 go_ret
 refine ⟨?_, rfl⟩
 congr 2
 by_cases h0 : s = 0
 ·subst h0; rfl
 ·rw [decide_eq_false h0]
  simp
  omega
def ptL (nd : List Int → Nat) (sz : Nat) (ts : List Int) (j : Nat) : List Value := (List.range j).map fun i => .pointer (some ⟨nd (ts.take ((i + 1) * sz)), 0, none⟩)
theorem ptL_snoc (nd : List Int → Nat) (sz : Nat) (ts : List Int) (j : Nat) : ptL nd sz ts j ++ [.pointer (some ⟨nd (ts.take ((j + 1) * sz)), 0, none⟩)] = ptL nd sz ts (j + 1) := by unfold ptL; rw [List.range_succ, List.map_append]; rfl
theorem ptL_at (nd : List Int → Nat) (sz : Nat) (ts : List Int) {i j : Nat} (h : i < j) : (ptL nd sz ts j)[i]? = some (.pointer (some ⟨nd (ts.take ((i + 1) * sz)), 0, none⟩)) := by unfold ptL; simp [h]
theorem Tryz.infoPe : (Tryz.prog.info? 113).map (fun i => (i.zero, i.size, i.bytes)) = some (some (.pointer none), 1, 8) := by kernel_rfl
theorem append_ptr (w : World) {ops : Array Oper} {rest : List Oper} {o : Oper} {a : Act} {Q : Exit → Act → World → Prop} (hgd : o.guard = none) (s x : Operand)
  (ho : o.op = .call { callee := .builtin .append, args := #[s, x], argTypes := #[114, 114] })
  (lo : Nat) (v : Value) (n : Nat) (vs : List Value) (hv : a.eval s = v) (h : w.ownsRow lo 113 1 v n vs) (hlo : lo ≤ w.heap.size) (hn : n ≤ 1000)
  (B : Nat) (q : Option Addr) (hx : a.eval x = .slice (some ⟨B, 0, none⟩) 1 1) (hc : w.cell? ⟨B, 0, none⟩ = some (.pointer q))
  (hk : ∀ (v' : Value) (w' : World), w'.ownsRow lo 113 1 v' (n + 1) (vs ++ [.pointer q]) → Below lo w w' → wpList Tryz.prog ops Q rest (a.put o.dst v') w') : wpList Tryz.prog ops Q (o :: rest) a w := by
 obtain ⟨i, hi, hz0, hz1, hz2⟩ := info_parts Tryz.infoPe
 refine wpList_append_own w hgd s x 114 ho lo 113 i (.pointer none) 1 8 Tryz.underlying114 hi hz0 hz1 hz2 rfl (by decide) v n _ hv h ⟨B, 0, none⟩ 1 1 [.pointer q] hx rfl ?_ ?_ (by unfold maxLen; omega) (by omega) hlo ?_
 ·intro j u hu
  match j, hu with
  | 0, hu => simp at hu; subst hu; exact hc
  | j + 1, hu => simp at hu
 ·intro u hu
  simp at hu
  subst hu
  rfl
 ·intro v' w' hO hg _
  exact hk v' w' hO ((Below.refl _ _).grown hg hlo fun g hg => (h.lt g hg).1)
theorem Reads.part {W : World} {b off n cap : Nat} {ts : List Int} (h : Reads .i64 W (some ⟨b, off, none⟩) n cap ts) {p m : Nat} (hm : p + m ≤ n) (h0 : 0 < m) : Reads .i64 W (some ⟨b, off + p, none⟩) m (cap - p) ((ts.drop p).take m) := (h.tail (by omega)).cut (by omega)
structure Far (T : List (List Int)) (sz : Nat) (ts : List Int) (J : Nat) : Prop where
 le : J * sz ≤ ts.length
 iff : ∀ i, 1 ≤ i → i * sz ≤ ts.length → (ts.take (i * sz) ∈ T ↔ i ≤ J)
theorem Far.take {T : List (List Int)} {sz : Nat} {ts : List Int} {J : Nat} (h : Far T sz ts J) {i : Nat} (h0 : 1 ≤ i) (h1 : i ≤ J) : ts.take (i * sz) ∈ T := (h.iff i h0 (Nat.le_trans (Nat.mul_le_mul_right _ h1) h.le)).2 h1
theorem Far.inT {T : List (List Int)} {sz : Nat} {ts : List Int} {J : Nat} (h : Far T sz ts J) {i : Nat} (h1 : i ≤ J) : InT T (ts.take (i * sz)) := by
 rcases Nat.eq_zero_or_pos i with rfl | h0
 ·left; simp
 ·exact .inr (h.take h0 h1)
set_option maxHeartbeats 4000000 in
theorem kpath_any {w : World} (h : KvB w B bb r pp L c pg sz tm T) (hz : 1 ≤ sz ∧ sz ≤ 16) (a : Option Addr) (nt cap : Nat) (ts : List Int) (hr : Reads .i64 w a nt cap ts) (hk : Tk ts) (hn : nt ≤ 256) {J : Nat} (hJ : Far T sz ts J) :
  Calls Tryz.prog 110 #[.pointer (some ⟨B, 0, none⟩), .slice a nt cap] w fun e w' => ∃ v, e = .returned v ∧ w'.ownsRow w.heap.size 113 1 v J (ptL L.nd sz ts J) ∧ Below w.heap.size w w' := by
 have hzt := hr.size
 have r1 := hr.room
 have m1 := hr.most
 have hJ1 := hJ.le
 rw [hzt] at hJ1
 obtain ⟨c0, c1, c2, c3, c4⟩ := h.cells
 have hJ2 : J ≤ 256 := Nat.le_trans (Nat.le_trans (Nat.le_mul_of_pos_right _ (by omega)) hJ1) hn
 have HKv := hid fun (W : World) (hb : Below w.heap.size w W) => h.below hb
 have HR := hid fun (W : World) (hb : Below w.heap.size w W) => hr.below hb
 have HJ := hid hJ
 have HTk := hid hk
 have HZt := hid hzt
 have hroot := h.root
 have HRt := hid hroot
 clear h hr hJ hk hroot hzt
 go_enter Tryz.func110, Tryz.ntmps110
 go_wp2_with fail
 go_loopw [5, 6, 7] (fun v x y W => ∃ (j p q : Nat), Hid (p = j * sz) ∧ Hid (q = p + sz) ∧ j ≤ J ∧ p ≤ nt ∧ x = .pointer (some ⟨L.nd (ts.take p), 0, none⟩) ∧ y = .int .i64 q ∧ Hid (W.ownsRow w.heap.size 113 1 v j (ptL L.nd sz ts j)) ∧ Hid (Below w.heap.size w W)) (fun _ _ y _ => nt + 17 - (intOf y).toNat)
 case atStart => exact ⟨0, 0, sz, by unfold Hid; omega, by unfold Hid; omega, by omega, by omega, by rw [List.take_zero, HRt.out], rfl, World.ownsRow_nil _ _ _ _, Below.refl _ _⟩
 case round =>
 obtain ⟨j, p, q, HP, HQ, hj, hp, rfl, rfl, HO, HV⟩ := hrel
 rename World => wr
 clear c0 c1 c2 c3 c4
 have hqb : q ≤ nt + 16 := by have := HQ.out; omega
 by_cases hle : q ≤ nt
 ·have q1 : (q : Int) ≤ (nt : Int) := by omega
  obtain ⟨b, off, rfl, _⟩ := (HR.out w (Below.refl _ _)).cell 0 (by have := HQ.out; omega)
  have hpq : p + sz = q := HQ.out.symm
  have hsub : IntKind.i64.wrap ((q : Int) - (sz : Int)) = (p : Int) := by rw [wrap64_in (by omega) (by omega)]; omega
  have s1 : (0 : Int) ≤ (p : Int) := by omega
  have s2 : (p : Int) ≤ (q : Int) := by omega
  have s3 : (q : Int) ≤ (cap : Int) := by omega
  have hcp : ¬ cap = p := by omega
  have hp3 : q - p = sz := by omega
  have hcl : (chunk sz j ts).length = sz := chunk_len (by rw [HZt.out, Nat.succ_mul, ← HP.out]; omega)
  have hch : (ts.drop p).take sz = chunk sz j ts := by unfold chunk; rw [HP.out]
  have htc : ts.take p ++ chunk sz j ts = ts.take q := by rw [HP.out, take_chunk, ← hpq, HP.out, Nat.succ_mul]
  have hIn : InT T (ts.take p) := by rw [HP.out]; exact HJ.out.inT hj
  obtain ⟨l, hl⟩ : ∃ l, kOf (keyV (chunk sz j ts)) = some l := Tk.key (by rw [← hch]; exact (HTk.out.drop _).take _) (by omega)
  have HKey := hid fun (W : World) (hb : Below w.heap.size w W) => by
   have := kkey_any (some ⟨b, off + p, none⟩) sz (cap - p) _ W ((HR.out W hb).part (by omega) (by omega)) hz.2
   rw [hch] at this
   exact this
  have HCl : Hid (∀ W : World, Below w.heap.size w W → W.cell? ⟨L.nd (ts.take p), 17, none⟩ = some (.map (some (L.mp (ts.take p)))) ∧ W.cell? ⟨B, 0, none⟩ = some (.int .i64 sz)) := fun W hb => ⟨((HKv.out W hb).ncells hz.2 hIn).2.1, (HKv.out W hb).cells.1⟩
  have HLk := hid fun (W : World) (hb : Below w.heap.size w W) => ((HKv.out W hb).tree.map _ hIn).look hl
  have hD : Below wr.heap.size wr wr.drew := (Below.refl _ _).drew
  have HVd := hid (HV.out.trans (hD.mono HV.out.size))
  by_cases hjl : j < J
  ·have hm : ts.take q ∈ T := by
    have := HJ.out.take (i := j + 1) (by omega) hjl
    rw [Nat.succ_mul, ← HP.out, hpq] at this
    exact this
   have hf := chF_yes (nd := L.nd) hcl (by rw [htc]; exact hm)
   rw [htc] at hf
   rw [hf] at HLk
   simp only [ptrP] at HLk
   have HP2 : Hid (q = (j + 1) * sz) := by unfold Hid; rw [← hpq, HP.out, Nat.succ_mul]
   have HSn : Hid (ptL L.nd sz ts j ++ [.pointer (some ⟨L.nd (ts.take q), 0, none⟩)] = ptL L.nd sz ts (j + 1)) := by unfold Hid; rw [HP2.out]; exact ptL_snoc _ _ _ _
   clear hm hf htc hcl hch hIn HP HQ HR HKv hD HTk HJ hl HRt
   generalize keyV (chunk sz j ts) = kv at *
   generalize ts.take p = tp at *
   obtain ⟨tq, hTq⟩ : ∃ tq, ts.take q = tq := ⟨_, rfl⟩
   have HTq := hid hTq
   rw [hTq] at HLk HSn
   clear hTq
   obtain ⟨y1, y2⟩ := HCl.out _ HV.out
   go_wp2_with fail
   clear y1 y2
   go_region_held3 (fun W : World => W.cell? ⟨L.nd tp, 17, none⟩ = some (.map (some (L.mp tp))) ∧ W.cell? ⟨B, 0, none⟩ = some (.int .i64 sz)) (first | (with_reducible exact HCl.out _ HV.out) | (with_reducible exact HCl.out _ HVd.out) | (with_reducible exact HCl.out _ HVk.out))
    (first
     | (go_at_call 86; (with_reducible refine (HKey.out _ HVd.out).mono ?_); rintro e wk ⟨rfl, hb⟩; have HBk := hid hb; have HVk := hid (HVd.out.trans (hb.mono HVd.out.size)); have hlk := HLk.out _ HVk.out; clear hb)
     | fail)
   all_goals
    have HOk : Hid (wk.ownsRow w.heap.size 113 1 u5 j (ptL L.nd sz ts j)) := own_below HO.out ((show Below wr.heap.size wr wr.drew from (Below.refl _ _).drew).trans HBk.out)
    have HA : Hid (Below wk.heap.size wk (wk.alloc (.cells #[.pointer (some ⟨L.nd tq, 0, none⟩)] 113))) := (Below.refl _ _).alloc (Nat.le_refl _) _
    have HOa := hid (own_below HOk.out HA.out)
    have HVa := hid (HVk.out.trans (HA.out.mono HVk.out.size))
    have HCe : Hid ((wk.alloc (.cells #[.pointer (some ⟨L.nd tq, 0, none⟩)] 113)).cell? ⟨wk.heap.size, 0, none⟩ = some (.pointer (some ⟨L.nd tq, 0, none⟩))) := by unfold Hid; rw [cell_of_row _ _ _ _ _ _ (heap_alloc_new wk _)]; rfl
    obtain ⟨q2, hq2⟩ : ∃ q2, q + sz = q2 := ⟨_, rfl⟩
    have HQ2 : Hid (q2 = q + sz) := hq2.symm
    have hp4 : (q : Int) + (sz : Int) = (q2 : Int) := by omega
    have hq3 : q2 ≤ nt + 16 := by omega
    have hq4 : q < q2 := by omega
    clear hsub hp3 hcp hq2
    clear HKey HLk hlk HO HBk HOk HA HVd
    go_wp2_with (at_builtin; refine append_ptr _ rfl (.tmp 43) (.tmp 45) rfl w.heap.size _ j _ rfl HOa.out HVa.out.size (by omega) _ _ rfl HCe.out ?_; intro v3 w3 hO3 hb3; have HV3 : Hid (Below w.heap.size w w3) := HVa.out.trans hb3; obtain ⟨y1, y2⟩ := HCl.out _ HV3.out)
    have HO3 : Hid (w3.ownsRow w.heap.size 113 1 v3 (j + 1) (ptL L.nd sz ts (j + 1))) := by unfold Hid; rw [← HSn.out]; exact hO3
    clear hO3 hb3 HOa HVa HCe HCl HSn
    go_wp2_with fail
    go_round
    case rel => exact ⟨j + 1, q, q2, HP2, HQ2, by omega, by omega, by rw [HTq.out], rfl, HO3, HV3⟩
    case measure => simp [intOf]; omega
  ·obtain rfl : j = J := by omega
   have hm : ts.take q ∉ T := fun hm => by
    have := (HJ.out.iff (j + 1) (by omega) (by rw [Nat.succ_mul, ← HP.out, hpq, HZt.out]; exact hle)).1 (by rw [Nat.succ_mul, ← HP.out, hpq]; exact hm)
    omega
   have hf := chF_no (nd := L.nd) hcl (by rw [htc]; exact hm)
   rw [hf] at HLk
   simp only [ptrP] at HLk
   clear hm hf htc hcl hch hIn HP HQ HR HKv hD HTk HJ hl HRt
   generalize keyV (chunk sz j ts) = kv at *
   generalize ts.take p = tp at *
   obtain ⟨y1, y2⟩ := HCl.out _ HV.out
   go_wp2_with fail
   clear y1 y2
   go_region_held3 (fun W : World => W.cell? ⟨L.nd tp, 17, none⟩ = some (.map (some (L.mp tp))) ∧ W.cell? ⟨B, 0, none⟩ = some (.int .i64 sz)) (first | (with_reducible exact HCl.out _ HV.out) | (with_reducible exact HCl.out _ HVd.out) | (with_reducible exact HCl.out _ HVk.out))
    (first
     | (go_at_call 86; (with_reducible refine (HKey.out _ HVd.out).mono ?_); rintro e wk ⟨rfl, hb⟩; have HBk := hid hb; have HVk := hid (HVd.out.trans (hb.mono HVd.out.size)); have hlk := HLk.out _ HVk.out; clear hb)
     | fail)
   all_goals
    have HOk : Hid (wk.ownsRow w.heap.size 113 1 u5 j (ptL L.nd sz ts j)) := own_below HO.out ((show Below wr.heap.size wr wr.drew from (Below.refl _ _).drew).trans HBk.out)
    clear HKey HLk hlk HO HBk HVd HCl
    go_wp2
    go_ret
    exact ⟨_, rfl, HOk.out, HVk.out⟩
 ·obtain rfl : j = J := by
   rcases Nat.lt_or_ge j J with hl | hl
   ·exfalso
    have : (j + 1) * sz ≤ J * sz := Nat.mul_le_mul_right _ hl
    rw [Nat.succ_mul, ← HP.out] at this
    have := HQ.out
    omega
   ·omega
  have q1 : ¬ (q : Int) ≤ (nt : Int) := by omega
  clear HP HQ HR HKv HTk HJ HRt
  go_wp2
  go_ret
  exact ⟨_, rfl, HO.out, HV.out⟩
end
end Go.Proofs.YtjgggialnegddaaGreat
namespace Go.Proofs.YtjgggialnegddaaGreat
open Go.RowKit Go.Maps
theorem nodup_len : ∀ {l1 l2 : List Int}, l1.Nodup → (∀ x ∈ l1, x ∈ l2) → l1.length ≤ l2.length
 | [], l2, _, _ => Nat.zero_le _
 | a :: l, l2, hn, hs => by
  rw [List.nodup_cons] at hn
  have ha := hs a (List.mem_cons_self ..)
  have ih := nodup_len (l2 := l2.erase a) hn.2 fun x hx => (List.mem_erase_of_ne (fun e => hn.1 (by rw [← e]; exact hx))).2 (hs x (List.mem_cons_of_mem _ hx))
  have hl := List.length_erase_of_mem ha
  have hp := List.length_pos_of_mem ha
  rw [List.length_cons]
  omega
theorem usedK_mem (hs : List Int) : ∀ (k : Nat) (m : Int), m ∈ usedK hs k ↔ ∃ i : Nat, i < k ∧ m = i ∧ 0 < hs[i]?.getD 0
 | 0, m => by simp [usedK]
 | k + 1, m => by
  have ih := usedK_mem hs k m
  simp only [usedK]
  split
  ·rename_i h0
   rw [List.mem_append, ih, List.mem_singleton]
   constructor
   ·rintro (⟨i, h1, h2, h3⟩ | h)
    ·exact ⟨i, by omega, h2, h3⟩
    ·exact ⟨k, by omega, h, h0⟩
   ·rintro ⟨i, h1, h2, h3⟩
    rcases Nat.lt_or_ge i k with hl | hl
    ·exact .inl ⟨i, hl, h2, h3⟩
    ·exact .inr (by rw [h2, show i = k by omega])
  ·rename_i h0
   rw [ih]
   constructor
   ·rintro ⟨i, h1, h2, h3⟩
    exact ⟨i, by omega, h2, h3⟩
   ·rintro ⟨i, h1, h2, h3⟩
    refine ⟨i, ?_, h2, h3⟩
    rcases Nat.lt_or_ge i k with hl | hl
    ·exact hl
    ·rw [show i = k by omega] at h3
     exact absurd h3 h0
theorem usedK_nodup (hs : List Int) : ∀ k : Nat, (usedK hs k).Nodup
 | 0 => by simp [usedK]
 | k + 1 => by
  have ih := usedK_nodup hs k
  simp only [usedK]
  split
  ·rw [List.nodup_append]
   refine ⟨ih, by simp, fun a ha b hb => ?_⟩
   rw [List.mem_singleton] at hb
   obtain ⟨i, h1, h2, _⟩ := (usedK_mem hs k a).1 ha
   rw [h2, hb]
   omega
  ·exact ih
theorem own_slc {w : World} {base e n : Nat} {v : Value} {vs : List Value} (h : w.ownsRow base e 1 v n vs) : ∃ a cap, v = .slice a n cap ∧ n ≤ cap ∧ cap ≤ 9223372036854775807 ∧ (∀ p, a = some p → base ≤ p.block ∧ p.block < w.heap.size) ∧ ∀ i u, vs[i]? = some u → ∃ g, a = some ⟨g, 0, none⟩ ∧ w.cell? ⟨g, i, none⟩ = some u := by
 have hl : vs.length = n := by have := h.1; simpa using this
 rcases id h.2 with ⟨rfl, rfl⟩ | ⟨g, cap, cur, rfl, hb, hg, hnc, hm, hs, ht⟩
 ·exact ⟨none, 0, rfl, Nat.le_refl _, by omega, (fun p hp => by cases hp), fun i u hu => by rw [List.eq_nil_of_length_eq_zero hl] at hu; simp at hu⟩
 ·refine ⟨some ⟨g, 0, none⟩, cap, rfl, hnc, by unfold maxLen at hm; omega, (fun p hp => by cases hp; exact ⟨hb, lt_of_block hg⟩), fun i u hu => ⟨g, rfl, ?_⟩⟩
  have := h.cells (g := g) rfl i u hu
  rwa [Addr.add_lit, Nat.zero_add] at this
section
variable {B bb r : Nat} {pp : Option Addr} {L : Lay} {c : Cf} {pg sz : Nat} {tm : Int} {T : List (List Int)}
theorem KvB.cnt {W : World} (h : KvB W B bb r pp L c pg sz tm T) (hn : T.Nodup) : (usedL L.hs).length = T.length := by
 have hm : ∀ m, m ∈ usedL L.hs ↔ ∃ x ∈ T, L.pgs x = m := by
  intro m
  unfold usedL
  rw [usedK_mem, h.hsl]
  constructor
  ·rintro ⟨i, h1, h2, h3⟩
   rcases h.held i h1 with ⟨h4, _⟩ | ⟨_, x, hx, h5⟩
   ·omega
   ·exact ⟨x, hx, by rw [h5, h2]⟩
  ·rintro ⟨x, hx, rfl⟩
   obtain ⟨p0, p1⟩ := h.pgb x hx
   refine ⟨(L.pgs x).toNat, by omega, by omega, ?_⟩
   rcases h.held (L.pgs x).toNat (by omega) with ⟨_, h5⟩ | ⟨h4, _⟩
   ·exact absurd (by omega) (h5 x hx)
   ·omega
 have h1 : (T.map L.pgs).Nodup := by
  unfold List.Nodup
  rw [List.pairwise_map]
  exact List.Pairwise.imp_of_mem (fun {a b} ha hb hne e => hne (h.pgi a ha b hb e)) hn
 refine Nat.le_antisymm ?_ ?_
 ·have := nodup_len (l2 := T.map L.pgs) (usedK_nodup L.hs L.hs.length) fun m hm' => by
   obtain ⟨x, hx, e⟩ := (hm m).1 hm'
   exact List.mem_map.2 ⟨x, hx, e⟩
  rw [List.length_map] at this
  exact this
 ·have := nodup_len (l2 := usedL L.hs) h1 fun m hm' => by
   obtain ⟨x, hx, e⟩ := List.mem_map.1 hm'
   exact (hm m).2 ⟨x, hx, e⟩
  simpa using this
theorem kpath_sl {w : World} (h : KvB w B bb r pp L c pg sz tm T) (hz : 1 ≤ sz ∧ sz ≤ 16) (a : Option Addr) (nt cap : Nat) (ts : List Int) (hr : Reads .i64 w a nt cap ts) (hk : Tk ts) (hn : nt ≤ 256) {J : Nat} (hJ : Far T sz ts J) :
  Calls Tryz.prog 110 #[.pointer (some ⟨B, 0, none⟩), .slice a nt cap] w fun e w' => ∃ ap cp, e = .returned (.slice ap J cp) ∧ J ≤ cp ∧ cp ≤ 9223372036854775807 ∧ (∀ p, ap = some p → w.heap.size ≤ p.block) ∧ (∀ i, i < J → ∃ g, ap = some ⟨g, 0, none⟩ ∧ w'.cell? ⟨g, i, none⟩ = some (.pointer (some ⟨L.nd (ts.take ((i + 1) * sz)), 0, none⟩))) ∧ Below w.heap.size w w' := by
 refine (kpath_any h hz a nt cap ts hr hk hn hJ).mono ?_
 rintro e w' ⟨v, rfl, hO, hb⟩
 obtain ⟨ap, cp, rfl, h1, h2, h3, h4⟩ := own_slc hO
 exact ⟨ap, cp, rfl, h1, h2, fun p hp => (h3 p hp).1, fun i hi => h4 i _ (ptL_at _ _ _ hi), hb⟩
end
end Go.Proofs.YtjgggialnegddaaGreat
namespace Go.Proofs.YtjgggialnegddaaGreat
open Go.RowKit Go.Maps
theorem StAt.d {W : World} {p : Option Addr} {c : Cf} {ts : List Int} {F : Nat → Prop} (h : StAt W p c ts F) : ∃ ta, StT W p c ts ta ∧ ∀ k, mF ta k → F k := by
 obtain ⟨g, pm, ta, tc, ha, hc, pq, rfl, h2, h3⟩ := h.get
 exact ⟨ta, ⟨g, pm, tc, ha, hc, pq, rfl, h2, h2.bl, h.one, h.most⟩, h3⟩
theorem StT.lt {W : World} {q : Option Addr} {c : Cf} {ts : List Int} {ta : Option Addr} (h : StT W q c ts ta) {k : Nat} (hk : mF ta k) : k < W.heap.size := by
 obtain ⟨g, pm, tc, ha, hc, pq, _, _, h5, _⟩ := h
 obtain ⟨a, e, rfl⟩ := hk
 obtain ⟨cur, fz, hcur⟩ := h5 a e
 exact lt_of_block hcur
theorem StT.below {W W' : World} {q : Option Addr} {c : Cf} {ts : List Int} {ta : Option Addr} (h : StT W q c ts ta) (hb : Below W.heap.size W W') : StT W' q c ts ta := h.keep (KpL.of hb) fun k hk => hb.block k (h.lt hk)
theorem dcut_T {W : World} {q : Option Addr} {c : Cf} {ts : List Int} {tb : Option Addr} (h : StT W q c ts tb) (hm : mayB c = true) {n : Nat} (h1 : 1 ≤ n) (h2 : n ≤ ts.length) :
  Calls Tryz.prog 87 #[.pointer q, .int .i64 n] W fun e w' => ∃ q' ta', e = .returned (.pointer q') ∧ StT w' q' c (ts.take n) ta' ∧ (∀ k, mF ta' k → mF tb k ∨ W.heap.size ≤ k) ∧ Below W.heap.size W w' := by
 obtain ⟨g, pm, tc, ha, hc, pq, rfl, k2, k3, k4, k5⟩ := h
 have := dcut_any _ c ts (n : Int) W (k2.at k4 k5) hm
 rw [show cutT (n : Int) ts.length = n by unfold cutT; omega] at this
 refine this.mono ?_
 rintro e w' ⟨g', F', rfl, hS, hF, hb⟩
 obtain ⟨ta', hT, hta⟩ := hS.d
 refine ⟨_, ta', rfl, hT, fun k hk => ?_, hb⟩
 have hnot : ¬ NotInt W k := fun ⟨cur, t, fz, e1, e2⟩ => by
  obtain ⟨_, _, _, _, _, _, _, _, h5, _⟩ := hT
  obtain ⟨a, e, rfl⟩ := hk
  obtain ⟨cur', fz', hcur⟩ := h5 a e
  rw [(hb.block _ (lt_of_block e1)).trans e1] at hcur
  simp at hcur
  exact e2 hcur.2.1
 rcases hF k (hta k hk) with (h' | h') | h' | h'
 ·exact absurd h' hnot
 ·exact .inl h'
 ·exact .inr h'
 ·exact absurd h' hnot
def FndT (w w' : World) (L : Lay) (T : List (List Int)) (q : Option Addr) (c : Cf) (ts : List Int) (n : Int) : Prop := (n = 0 ∧ q = none) ∨ (0 < n ∧ ∃ ta, StT w' q c (ts.take n.toNat) ta ∧ ∀ k, mF ta k → (∃ y ∈ T, mF (L.ta y) k) ∨ w.heap.size ≤ k)
section
variable {B bb r : Nat} {pp : Option Addr} {L : Lay} {c : Cf} {pg sz : Nat} {tm : Int} {T : List (List Int)}
theorem bel_dr (W : World) (q : Nat) : Below W.heap.size W (W.drewN q) := ⟨rfl, rfl, rfl, Nat.le_refl _, fun _ _ => rfl⟩
theorem Fb.dr {F : Nat → Prop} {a b : World} (h : Fb F a b) (q : Nat) : Fb F a (b.drewN q) := h.below (bel_dr b q)
theorem KvB.dr {W : World} (h : KvB W B bb r pp L c pg sz tm T) (q : Nat) : KvB (W.drewN q) B bb r pp L c pg sz tm T := h.below (bel_dr W q)
structure Usd (L : Lay) (sz : Nat) (ts : List Int) (tm : Int) (k : Nat) (us : List Int → Int) : Prop where
 now : ∀ i, 1 ≤ i → i ≤ k → us (ts.take (i * sz)) = tm
 rest : ∀ y, (∀ i, 1 ≤ i → i ≤ k → y ≠ ts.take (i * sz)) → us y = L.us y
theorem Usd.zero (L : Lay) (sz : Nat) (ts : List Int) (tm : Int) : Usd L sz ts tm 0 L.us := ⟨fun i h1 h2 => by omega, fun y _ => rfl⟩
theorem Usd.next {L : Lay} {sz : Nat} {ts : List Int} {tm : Int} {k : Nat} {us : List Int → Int} (h : Usd L sz ts tm k us) : Usd L sz ts tm (k + 1) (fun y => if y = ts.take ((k + 1) * sz) then tm else us y) := by
 refine ⟨fun i h1 h2 => ?_, fun y hy => ?_⟩
 ·split
  ·rfl
  ·rename_i hne
   rcases Nat.lt_or_ge i (k + 1) with hl | hl
   ·exact h.now i h1 (by omega)
   ·exact absurd (by rw [show i = k + 1 by omega]) hne
 ·rw [if_neg (hy (k + 1) (by omega) (Nat.le_refl _))]
  exact h.rest y fun i h1 h2 => hy i h1 (by omega)
set_option maxHeartbeats 4000000 in
theorem kuse_any {w : World} (h : KvB w B bb r pp L c pg sz tm T) (hz : 1 ≤ sz ∧ sz ≤ 16) (ht0 : 0 ≤ tm) (ht1 : tm ≤ 100000) (a : Option Addr) (nt cap : Nat) (ts : List Int) (hr : Reads .i64 w a nt cap ts) (hk : Tk ts) (hn : nt ≤ 256) (hap : ∀ q, a = some q → ¬ ftB B bb L T q.block) {J : Nat} (hJ : Far T sz ts J) :
  Calls Tryz.prog 84 #[.pointer (some ⟨B, 0, none⟩), .slice a nt cap] w fun e w' => e = .returned (.tuple #[.pointer (some ⟨L.nd (ts.take (J * sz)), 0, none⟩), .int .i64 (J * sz : Nat)]) ∧ ∃ us, KvB w' B bb r pp { L with us := us } c pg sz (tm + 1) T ∧ Usd L sz ts (tm + 1) J us ∧ Fb (ftB B bb L T) w w' := by
 obtain ⟨t2, ht2⟩ : ∃ t2, tm + 1 = t2 := ⟨_, rfl⟩
 rw [ht2]
 have hwr : IntKind.u64.wrap (tm + 1) = t2 := by rw [← ht2, IntKind.wrap_u64]; omega
 obtain ⟨c0, c1, c2, c3, c4⟩ := h.cells
 have fB := frozen_of_row _ _ 4 _ _ h.var
 have hJ1 := hJ.le
 rw [hr.size] at hJ1
 have hJ2 : J ≤ 256 := Nat.le_trans (Nat.le_trans (Nat.le_mul_of_pos_right _ (by omega)) hJ1) hn
 obtain ⟨w1, hw1⟩ : ∃ w1, w1 = w.setCell ⟨B, 4, none⟩ (.int .u64 t2) := ⟨_, rfl⟩
 have h1 : KvB w1 B bb r pp L c pg sz t2 T := by rw [hw1]; exact h.tick t2
 have hF1 : Fb (ftB B bb L T) w w1 := by rw [hw1]; exact Fb.set (.inl rfl) _
 have hr1 : Reads .i64 w1 a nt cap ts := hr.same (fun x hx => by
  obtain ⟨p, rfl, rfl⟩ := hx
  rw [hw1]
  exact Below.heap_setCell _ _ _ _ fun e => hap p rfl (.inl e))
 have HS1 : Hid (w1.heap.size = w.heap.size) := by unfold Hid; rw [hw1]; simp [World.setCell]
 have hPa := kpath_sl h1 hz a nt cap ts hr1 hk hn hJ
 have d2 : (w.setCell ⟨B, 4, none⟩ (.int .u64 t2)).cell? ⟨B, 2, none⟩ = some (.pointer (some ⟨r, 0, none⟩)) := by rw [← hw1]; exact h1.cells.2.2.1
 have HRt := hid h.root
 have HK1 := hid h1
 have HF1 := hid hF1
 have HJ := hid hJ
 clear h hr hk hap hJ hF1 hr1 h1 c0 c1 c2 c3 ht2
 go_enter Tryz.func84, Tryz.ntmps84
 go_wp2_with fail
 rw [← hw1]
 clear hw1 c4 fB hwr d2
 refine hPa.mono ?_
 rintro e w2 ⟨ap, cp, rfl, k1, k2, k3, k4, hb⟩
 have HC := hid k4
 have HG : Hid (∀ p, ap = some p → ¬ ftB B bb L T p.block) := fun p hp hf => by
  have := HK1.out.old _ hf
  have := k3 p hp
  omega
 have HK2 := hid (HK1.out.below hb)
 have HF2 := hid (HF1.out.below hb)
 clear hb k3 k4 hPa HK1 HF1
 go_wp2_with fail
 go_loopw [6, 7, 25] (fun x y i W => ∃ (k p : Nat) (us : List Int → Int), Hid (p = k * sz) ∧ k ≤ J ∧ p ≤ nt ∧ x = .pointer (some ⟨L.nd (ts.take p), 0, none⟩) ∧ y = .int .i64 p ∧ i = .int .i64 k ∧ Hid (KvB W B bb r pp { L with us := us } c pg sz t2 T) ∧ Hid (Usd L sz ts t2 k us) ∧ Hid (Fb (ftB B bb L T) w2 W)) (fun _ _ i _ => J - (intOf i).toNat)
 case atStart => exact ⟨0, 0, L.us, by unfold Hid; omega, by omega, by omega, by rw [List.take_zero, HRt.out], rfl, rfl, HK2.out, Usd.zero _ _ _ _, Fb.refl _ _⟩
 case round =>
 obtain ⟨k, p, us, HP, hk, hp, rfl, rfl, rfl, HKk, HUk, HFk⟩ := hrel
 rename World => wr
 by_cases hlt : k < J
 ·have q1 : (k : Int) < (J : Int) := by omega
  obtain ⟨g, rfl, cg⟩ := HC.out k hlt
  have ck := HFk.out.cell cg (show ¬ ftB B bb L T g from HG.out ⟨g, 0, none⟩ rfl)
  have hx : InT T (ts.take ((k + 1) * sz)) := HJ.out.inT hlt
  obtain ⟨p2, hp2⟩ : ∃ p2, (k + 1) * sz = p2 := ⟨_, rfl⟩
  rw [hp2] at ck hx
  have hpp : p + sz = p2 := by rw [HP.out, ← hp2, Nat.succ_mul]
  have hp2l : p2 ≤ nt := by rw [← hp2]; exact Nat.le_trans (Nat.mul_le_mul_right _ hlt) hJ1
  have hU2 := HUk.out.next
  rw [hp2] at hU2
  have hK2 := HKk.out.use hz.2 hx t2
  have hF2 : Fb (ftB B bb L T) w2 (wr.setCell ⟨L.nd (ts.take p2), 20, none⟩ (.int .u64 t2)) := HFk.out.trans (Fb.set (F := ftB B bb L T) (.inr (.inr (.inr ⟨_, hx, .inl rfl⟩))) _) fun x hx => .inl hx
  have HU2 := hid hU2
  have HF2' := hid hF2
  have HK2' : Hid (KvB (wr.setCell ⟨L.nd (ts.take p2), 20, none⟩ (.int .u64 t2)) B bb r pp { L with us := fun y => if y = ts.take p2 then t2 else us y } c pg sz t2 T) := hK2
  have e4 := HKk.out.cells.2.2.2.2
  have f0 := hK2.cells.1
  have n20 := (HKk.out.ncells hz.2 hx).2.2.2.2
  have f20 := (HKk.out.tree.node _ hx).frozen 20
  have HP2 := hid hp2.symm
  have hsum : (p : Int) + (sz : Int) = (p2 : Int) := by omega
  simp only at n20 f20
  clear hU2 hK2 hF2 hx hp2 cg HC HG HKk HUk HFk HK2 HF2 HJ HRt HP
  generalize ts.take p = tp at *
  obtain ⟨tq, hTq⟩ : ∃ tq, ts.take p2 = tq := ⟨_, rfl⟩
  have HTq := hid hTq
  rw [hTq] at ck HU2 HF2' HK2' f0 n20 f20
  clear hTq
  go_wp2_with fail
  go_quiet (fail)
  go_wp2_with fail
  go_round
  case rel => exact ⟨k + 1, p2, _, HP2, by omega, by omega, by rw [HTq.out], rfl, by go_num, HK2'.out.dr _, HU2, HF2'.out.dr _⟩
  case measure => simp [intOf]; omega
 ·obtain rfl : k = J := by omega
  have HE : Hid (p = k * sz) := HP
  have HF3 : Hid (Fb (ftB B bb L T) w wr) := HF2.out.trans HFk.out fun x hx => .inl hx
  have HEq : Hid (Ending.returned (.tuple #[.pointer (some ⟨L.nd (ts.take p), 0, none⟩), .int .i64 (p : Nat)]) = .returned (.tuple #[.pointer (some ⟨L.nd (ts.take (k * sz)), 0, none⟩), .int .i64 (k * sz : Nat)])) := by unfold Hid; rw [HE.out]
  clear HP HE HC HG HK2 HF2 HJ HRt HFk
  go_wp2
  go_ret2
  exact ⟨HEq.out, us, HKk.out, HUk.out, HF3.out⟩
theorem kfind_in {w : World} (h : KvB w B bb r pp L c pg sz tm T) (hz : 1 ≤ sz ∧ sz ≤ 16) (hm : mayB c = true) (ht0 : 0 ≤ tm) (ht1 : tm ≤ 100000) (a : Option Addr) (nt cap : Nat) (ts : List Int) (hr : Reads .i64 w a nt cap ts) (hk : Tk ts) (hn : nt ≤ 256) (hap : ∀ q, a = some q → ¬ ftB B bb L T q.block) {J : Nat} (hJ : Far T sz ts J) :
  Calls Tryz.prog 105 #[.pointer (some ⟨B, 0, none⟩), .slice a nt cap] w fun e w' => ∃ q, e = .returned (.tuple #[.pointer q, .int .i64 (J * sz : Nat)]) ∧ FndT w w' L T q c ts (J * sz : Nat) ∧ ∃ us, KvB w' B bb r pp { L with us := us } c pg sz (tm + 1) T ∧ Usd L sz ts (tm + 1) J us ∧ Fb (ftB B bb L T) w w' := by
 have hM := kmade_yes h
 have hU := kuse_any h hz ht0 ht1 a nt cap ts hr hk hn hap hJ
 have HJ := hid hJ
 have hJ1 := hJ.le
 rw [hr.size] at hJ1
 have HZ := hid hr.size
 obtain ⟨t2, ht2⟩ : ∃ t2, tm + 1 = t2 := ⟨_, rfl⟩
 rw [ht2] at hU ⊢
 obtain ⟨p, hp⟩ : ∃ p, J * sz = p := ⟨_, rfl⟩
 have HP := hid hp
 rw [hp] at hU hJ1 ⊢
 clear h hr hk hap hJ hp ht2
 by_cases h0 : p = 0
 ·have HF : Hid (∀ W W' : World, FndT W W' L T none c ts (p : Nat)) := fun W W' => .inl ⟨by omega, rfl⟩
  subst h0
  go_enter Tryz.func105, Tryz.ntmps105
  go_wp2_with fail
  refine hM.mono ?_
  rintro e w' ⟨rfl, rfl⟩
  clear hM
  go_wp2_with fail
  refine hU.mono ?_
  rintro e w2 ⟨rfl, us, hK, hUs, hF⟩
  have HK := hid hK
  have HUs := hid hUs
  have HFb := hid hF
  clear hK hUs hF hU
  go_wp2
  go_ret2
  exact ⟨none, rfl, HF.out _ _, us, HK.out, HUs.out, HFb.out⟩
 ·have hJ0 : 1 ≤ J := by
   rcases Nat.eq_zero_or_pos J with e | e
   ·exfalso; apply h0; rw [← HP.out, e, Nat.zero_mul]
   ·exact e
  have hIn : ts.take p ∈ T := by rw [← HP.out]; exact HJ.out.take hJ0 (Nat.le_refl _)
  have hlen : (ts.take p).length = p := by rw [List.length_take, HZ.out]; omega
  have q0 : ((p : Int) == 0) = false := by simp; omega
  have q1 : ¬ (p : Int) = 0 := by omega
  have HIn := hid hIn
  have HLen := hid hlen
  clear hIn hlen hJ0
  go_enter Tryz.func105, Tryz.ntmps105
  go_wp2_with fail
  refine hM.mono ?_
  rintro e w' ⟨rfl, rfl⟩
  clear hM
  go_wp2_with fail
  refine hU.mono ?_
  rintro e w2 ⟨rfl, us, hK, hUs, hF⟩
  have HK := hid hK
  have HUs := hid hUs
  have HFb := hid hF
  have n18 := (hK.ncells hz.2 (.inr HIn.out)).2.2.1
  have hC := dcut_T (hK.sts _ HIn.out).1 hm (n := p) (by omega) (by rw [HLen.out]; exact Nat.le_refl _)
  rw [List.take_take, Nat.min_self] at hC
  have HTp : Hid (∀ (ta' : Option Addr), (∀ k, mF ta' k → mF (L.ta (ts.take p)) k ∨ w2.heap.size ≤ k) → ∀ k, mF ta' k → (∃ y ∈ T, mF (L.ta y) k) ∨ w.heap.size ≤ k) := fun ta' h k hk => (h k hk).elim (fun h' => .inl ⟨_, HIn.out, h'⟩) fun h' => .inr (Nat.le_trans hF.size h')
  simp only at n18 hC
  clear hK hUs hF hU HIn HLen HJ HZ
  generalize L.st (ts.take p) = sp at *
  generalize L.ta (ts.take p) = tx at *
  go_wp2_with fail
  refine hC.mono ?_
  rintro e w3 ⟨q, ta, rfl, hT, hta, hb⟩
  have HS : Hid (FndT w w3 L T q c ts (p : Nat)) := .inr ⟨by omega, ta, by rw [Int.toNat_natCast]; exact hT, HTp.out ta hta⟩
  have HK3 := hid (HK.out.below hb)
  have HF3 := hid (HFb.out.below hb)
  clear hb hT hC HK HFb hta HTp
  go_wp2
  go_ret2
  exact ⟨_, rfl, HS.out, us, HK3.out, HUs.out, HF3.out⟩
end
end Go.Proofs.YtjgggialnegddaaGreat
