/-
  Contracts: marks, forward, Step, of the program: what a layer makes of a vector.
-/
import Derived.Test.YtehmdlipacbpfaaGreatAMath
namespace Go.Proofs.YtehmdlipacbpfaaGreat
open Go.RowKit
set_option linter.unusedVariables false
set_option maxRecDepth 1000000

theorem fld_dim (s v d l tt h : Int) (W : World) : (Instr.field 24 (.agg #[.int .u64 s, .int .i64 v, .int .i64 d, .int .i64 l, .int .i64 tt, .int .i64 h]) 2).run Tryz.prog W = .ok (.int .i64 d) W := by kernel_rfl
theorem fld_layers (s v d l tt h : Int) (W : World) : (Instr.field 24 (.agg #[.int .u64 s, .int .i64 v, .int .i64 d, .int .i64 l, .int .i64 tt, .int .i64 h]) 3).run Tryz.prog W = .ok (.int .i64 l) W := by kernel_rfl
theorem map_rowK {α : Type} (d : α) (g : α → Int) (ls : List α) {n : Nat} (h : ls.length = n) : rowK (fun k => g (ls[k]?.getD d)) n = ls.map g := by
  subst h
  unfold rowK
  apply List.ext_getElem
  · simp
  · intro i h1 h2
    simp at h1 h2
    simp [h1]

set_option maxHeartbeats 1000000 in
theorem marks_any (p : Option Addr) (c : Cf) (b : Option Addr) (lb cb : Nat) (ys : List Int) (a : Option Addr) (n cap : Nat) (hs : List Hd) (ls : List (List Int)) (w : World) (hp : MdAt w p c) (hq : Reads .i64 w b lb cb ys) (hlb : lb ≤ 1000) (ht : Tbl w a n cap hs ls) (hl : ls.length = n) (hn : n ≤ 1000) :
    Calls Tryz.prog 27 #[.pointer p, .slice b lb cb, .slice a n cap] w fun e w' => Made w n (ls.map (markZ c ys)) e w' := by
  have hC := config_any p c w hp
  obtain ⟨rt, hrt⟩ : ∃ rt, sqrtZ (fromZ c.dim) = rt := ⟨_, rfl⟩
  obtain ⟨d, hd⟩ : ∃ d : Nat → Int, d = fun k => dotK (ls[k]?.getD []) ys (min (ls[k]?.getD []).length ys.length) := ⟨_, rfl⟩
  have HD : Hid (∀ k W, k < n → Below w.heap.size w W → Calls Tryz.prog 53 #[.slice (hs[k]?.getD (none, 0, 0)).1 (hs[k]?.getD (none, 0, 0)).2.1 (hs[k]?.getD (none, 0, 0)).2.2, .slice b lb cb] W fun e w' => e = .returned (.int .i64 (d k)) ∧ Below W.heap.size W w') := by
    intro k W hk hW
    have h1 := (ht.below hW).rows k hk
    have h2 := hq.below hW
    have := dot_any _ b _ _ lb cb _ _ W h1 h2 (ht.short k hk) hlb
    rw [hd]
    simp only
    rw [h1.size, h2.size]
    exact this
  have HF : Hid (rowK (fun k => divZ (d k) rt) n = ls.map (markZ c ys)) := by
    unfold Hid
    rw [← map_rowK [] (markZ c ys) ls hl, hd, ← hrt]
    rfl
  have HT := hid ht
  have r1 := ht.rd.room
  have m1 := ht.rd.most
  obtain ⟨s, v, dm, l, tt, h⟩ := c
  simp only at hrt
  unfold CfV at hC
  simp only at hC
  clear hp hq ht hl hd
  rw [← HF.out]
  clear HF
  have hfd := fld_dim s v dm l tt h
  go_enter Tryz.func27, Tryz.ntmps27
  go_wp2_with fail
  refine hC.mono ?_
  rintro e w1 ⟨rfl, hb1⟩
  have HB1 := hid hb1
  have hmk := make_ints w1 n (by omega)
  have HO0 : Hid (OwnK 2 w.heap.size w1.heap.size n n (rowK (fun k => divZ (d k) rt) 0 ++ List.replicate (n - 0) 0) (w1.alloc (.cells (madeCells #[.int .i64 0] n) 2))) := (own_made _ w1 n (by omega)).low hb1.size
  have HB0 : Hid (Below w.heap.size w (w1.alloc (.cells (madeCells #[.int .i64 0] n) 2))) := hb1.alloc hb1.size _
  clear hb1 hC HB1
  go_wp2_with fail
  refine (from_any _ _).mono ?_
  rintro e w' ⟨rfl, rfl⟩
  rename World => w1
  go_wp2_with fail
  refine (sqrt_any _ _).mono ?_
  rintro e w' ⟨rfl, rfl⟩
  rename World => w1
  rw [hrt]
  have HG : Hid (w.heap.size ≤ w1.heap.size) := HO0.out.base
  clear hrt
  go_wp2_with fail
  go_loopw [21] (fun i W => ∃ k : Nat, k ≤ n ∧ i = .int .i64 k ∧ Hid (OwnK 2 w.heap.size w1.heap.size n n (rowK (fun k => divZ (d k) rt) k ++ List.replicate (n - k) 0) W) ∧ Hid (Below w.heap.size w W)) (fun i _ => n - (intOf i).toNat)
  case atStart => exact ⟨0, Nat.zero_le _, rfl, HO0, HB0⟩
  case round =>
    obtain ⟨k, hk, rfl, HO, HB⟩ := hrel
    clear HO0 HB0 hmk
    by_cases hlt : k < n
    · have hC := HD.out k wr hlt HB.out
      obtain ⟨b1, o1, rfl, c1⟩ := (HT.out.rd.below HB.out).cell k hlt
      have HS := hid (rowK_set (fun k => divZ (d k) rt) hlt)
      have q1 : (k : Int) < (n : Int) := by omega
      clear HD HT
      generalize hs[k]?.getD (none, 0, 0) = y at *
      obtain ⟨y1, y2, y3⟩ := y
      simp only at c1 hC
      go_wp2_with fail
      refine hC.mono ?_
      rintro e w2 ⟨rfl, hb⟩
      have HO2 := hid (HO.out.stays hb)
      have HB2 := hid (HB.out.trans (hb.mono HB.out.size))
      clear hb hC HO HB c1
      go_wp2_with fail
      refine (div_any _ _ _).mono ?_
      rintro e w' ⟨rfl, rfl⟩
      rename World => w2
      have ck := HO2.out.cell hlt
      have fk := HO2.out.frozen k
      have HO3 : Hid (OwnK 2 w.heap.size w1.heap.size n n (rowK (fun k => divZ (d k) rt) (k + 1) ++ List.replicate (n - (k + 1)) 0) (w2.setCell ⟨w1.heap.size, k, none⟩ (.int .i64 (divZ (d k) rt)))) := by
        have := HO2.out.set k (divZ (d k) rt)
        rw [HS.out] at this
        exact this
      have HB3 := hid (HB2.out.setCell (p := ⟨w1.heap.size, k, none⟩) HG.out (.int .i64 (divZ (d k) rt)))
      clear HO2 HB2 HS
      go_wp2_with fail
      go_round
      case rel => exact ⟨k + 1, by omega, by go_num, HO3, HB3⟩
      case measure => simp [intOf]; omega
    · obtain rfl : k = n := by omega
      have HO3 : Hid (OwnK 2 w.heap.size w1.heap.size k k (rowK (fun k => divZ (d k) rt) k) wr) := by
        have := HO.out
        rw [Nat.sub_self, List.replicate_zero, List.append_nil] at this
        exact this
      clear HO HD HT
      go_wp2
      go_ret
      exact ⟨_, _, rfl, HO3.out, HB.out⟩


/-- The call hands back a slice that reads as this list, in a block of numbers. -/
def GH (w : World) (L : List Int) (e : Ending) (w' : World) : Prop := ∃ (a : Option Addr) (n cap : Nat), e = .returned (.slice a n cap) ∧ Reads .i64 w' a n cap L ∧ BlI w' a ∧ Below w.heap.size w w'
theorem Made.gh {w w' : World} {n : Nat} {L : List Int} {e : Ending} (h : Made w n L e w') : GH w L e w' := by
  obtain ⟨g, cap, rfl, h1, h2⟩ := h
  exact ⟨_, n, cap, rfl, h1.reads, BlI.own h1, h2⟩
theorem norm_h (a : Option Addr) (n cap : Nat) (zs : List Int) (w : World) (ha : Reads .i64 w a n cap zs) (hn : n ≤ 1000) :
    Calls Tryz.prog 23 #[.slice a n cap] w fun e w' => GH w (normL zs) e w' := (norm_any a n cap zs w ha hn).mono fun e w' h => h.gh
theorem soft_h (a : Option Addr) (n cap : Nat) (zs : List Int) (w : World) (ha : Reads .i64 w a n cap zs) (hn : n ≤ 1000) :
    Calls Tryz.prog 26 #[.slice a n cap] w fun e w' => GH w (softL zs) e w' := (soft_any a n cap zs w ha hn).mono fun e w' h => h.gh
theorem relu_h (a : Option Addr) (n cap : Nat) (zs : List Int) (w : World) (ha : Reads .i64 w a n cap zs) (hn : n ≤ 1000) :
    Calls Tryz.prog 73 #[.slice a n cap] w fun e w' => GH w (reluL zs) e w' := (relu_any a n cap zs w ha hn).mono fun e w' h => h.gh
theorem add_h (a b : Option Addr) (la ca lb cb : Nat) (xs ys : List Int) (w : World) (ha : Reads .i64 w a la ca xs) (hb : Reads .i64 w b lb cb ys) (hla : la ≤ 1000) (hlb : lb ≤ 1000) :
    Calls Tryz.prog 30 #[.slice a la ca, .slice b lb cb] w fun e w' => GH w (addL xs ys) e w' := by
  unfold addL
  rw [ha.size, hb.size]
  exact (vadd_any a b la ca lb cb xs ys w ha hb hla hlb).mono fun e w' h => h.gh
theorem mul_h (a b : Option Addr) (la ca lb cb : Nat) (hs : List Hd) (t : List (List Int)) (ys : List Int) (w : World) (ha : Tbl w a la ca hs t) (hl : t.length = la) (hb : Reads .i64 w b lb cb ys) (hla : la ≤ 1000) (hlb : lb ≤ 1000) :
    Calls Tryz.prog 24 #[.slice a la ca, .slice b lb cb] w fun e w' => GH w (mulT t ys) e w' := by
  unfold mulT
  rw [hl]
  exact (vmul_any a b la ca lb cb hs t ys w ha hb hla hlb).mono fun e w' h => h.gh
theorem mix_h (a b : Option Addr) (la ca lb cb : Nat) (hs : List Hd) (t : List (List Int)) (ws : List Int) (w : World) (ha : Tbl w a la ca hs t) (hl : t.length = la) (hb : Reads .i64 w b lb cb ws) (hla : la ≤ 1000) (hlb : lb ≤ 1000) (h0 : 0 < la) :
    Calls Tryz.prog 29 #[.slice b lb cb, .slice a la ca] w fun e w' => GH w (mixL ws t) e w' := by
  unfold mixL
  rw [hl, hb.size]
  exact (vmix_made a b la ca lb cb hs t ws w ha hb hla hlb h0).mono fun e w' h => h.gh
theorem mixK_bd {ws : List Int} {ls : List (List Int)} {m : Nat} (h : ∀ i, i < ls.length → (ls[i]?.getD []).length ≤ m) (k : Nat) : (mixK ws ls k).length ≤ m := by
  induction k with
  | zero =>
    simp only [mixK, List.length_replicate]
    by_cases h0 : 0 < ls.length
    · exact h 0 h0
    · rw [List.getElem?_eq_none (by omega)]; exact Nat.zero_le _
  | succ k ih => simp only [mixK]; rw [pairK_len]; omega
/-- The call hands back a slice that reads as this table. -/
def GT (w : World) (L : List (List Int)) (e : Ending) (w' : World) : Prop := ∃ (a : Option Addr) (n cap : Nat) (hs : List Hd), e = .returned (.slice a n cap) ∧ Tbl w' a n cap hs L ∧ L.length = n ∧ Below w.heap.size w w'
theorem rows_h (p : Option Addr) (c : Cf) (la wh : Int) (w : World) (hp : MdAt w p c) (hc : mayB c = true) :
    Calls Tryz.prog 25 #[.pointer p, .int .i64 la, .int .i64 wh] w fun e w' => GT w (tabL c la wh) e w' := (rows_g p c la wh w hp hc).mono fun e w' ⟨a, cap, hs, h1, h2, h3⟩ => ⟨a, _, cap, hs, h1, h2, rfl, h3⟩

theorem forward_h (p : Option Addr) (c : Cf) (la : Int) (a : Option Addr) (n cap : Nat) (zs : List Int) (w : World) (hp : MdAt w p c) (hc : mayB c = true) (hx : Reads .i64 w a n cap zs) (hn : n ≤ 1000) :
    Calls Tryz.prog 31 #[.pointer p, .int .i64 la, .slice a n cap] w fun e w' => GH w (fwdL c la zs) e w' := by
  have h4 := tabL_len hc la 4
  have h5 := tabL_len hc la 5
  have HR := hid fun wh W (hb : Below w.heap.size w W) => rows_h p c la wh W (hp.below hb) hc
  have HX := hid hx
  have HN := hid (normL_len zs)
  have HE : Hid (fwdL c la zs = mulT (tabL c la 5) (reluL (mulT (tabL c la 4) (normL zs)))) := rfl
  have HS := hid hx.size
  clear hp hx
  go_enter Tryz.func31, Tryz.ntmps31
  go_wp2_with fail
  refine (HR.out 4 _ (Below.refl _ _)).mono ?_
  rintro e w1 ⟨a1, n1, c1, hs1, rfl, hT, hl, hb⟩
  have HT := hid hT
  have HTl := hid hl
  have HV := hid hb
  replace HX := hid (HX.out.below hb)
  clear hT hl hb
  go_wp2_with fail
  refine (norm_h a n cap zs _ HX.out hn).mono ?_
  rintro e w2 ⟨a2, n2, c2, rfl, hR, hI, hb⟩
  have HQ := hid hR
  replace HT := hid (HT.out.below hb)
  replace HV := hid (HV.out.trans (hb.mono HV.out.size))
  clear hR hI hb HX
  go_wp2_with fail
  refine (mul_h a1 a2 n1 c1 n2 c2 hs1 _ _ _ HT.out HTl.out HQ.out (by rw [← HTl.out]; omega) (by rw [← HQ.out.size, HN.out, HS.out]; exact hn)).mono ?_
  rintro e w3 ⟨a3, n3, c3, rfl, hR, hI, hb⟩
  have HU := hid hR
  replace HV := hid (HV.out.trans (hb.mono HV.out.size))
  clear hR hI hb HT HTl HQ HN HS
  go_wp2_with fail
  refine (HR.out 5 _ HV.out).mono ?_
  rintro e w4 ⟨a4, n4, c4, hs4, rfl, hT, hl, hb⟩
  have HT := hid hT
  have HTl := hid hl
  replace HU := hid (HU.out.below hb)
  replace HV := hid (HV.out.trans (hb.mono HV.out.size))
  clear hT hl hb HR
  have HUl : Hid (n3 ≤ 1000) := by unfold Hid; rw [← HU.out.size, mulT_len]; omega
  go_wp2_with fail
  refine (relu_h a3 n3 c3 _ _ HU.out HUl.out).mono ?_
  rintro e w5 ⟨a5, n5, c5, rfl, hR, hI, hb⟩
  have HW := hid hR
  replace HT := hid (HT.out.below hb)
  replace HV := hid (HV.out.trans (hb.mono HV.out.size))
  clear hR hI hb HU HUl
  go_wp2_with fail
  refine (mul_h a4 a5 n4 c4 n5 c5 hs4 _ _ _ HT.out HTl.out HW.out (by rw [← HTl.out]; omega) (by rw [← HW.out.size, reluL_len, mulT_len]; omega)).mono ?_
  rintro e w6 ⟨a6, n6, c6, rfl, hR, hI, hb⟩
  have HY := hid hR
  have HYI := hid hI
  replace HV := hid (HV.out.trans (hb.mono HV.out.size))
  clear hR hI hb HT HTl HW
  go_wp2
  go_ret
  refine ⟨_, _, _, rfl, ?_, HYI.out, HV.out⟩
  rw [HE.out]
  exact HY.out

/-- A slice cut to its first ones. -/
theorem slice_to {T e : TypeId} {i : TypeInfo} (a : Option Addr) (len cap m : Nat) (hT : Tryz.prog.underlying T = some (.slice e)) (hi : Tryz.prog.info? e = some i) (hm : m ≤ cap) (W : World) :
    (Instr.sliceAt T (.slice a len cap) none (some (.int .i64 (m : Int))) none).run Tryz.prog W = .ok (.slice a m cap) W := by
  have h1 : (Instr.sliceBound (.int .i64 (m : Int)) cap .sliceAcap).run Tryz.prog W = .ok m W := by
    rw [run_sliceBound W .i64 (m : Int) cap _ (by omega) (by omega)]; simp
  have h2 : (if cap = 0 then a else a.map fun x => x.add 0) = a := by
    split
    · rfl
    · cases a <;> simp [Addr.add]
  simp [Instr.sliceAt, Instr.slice, run_underlying hT, Instr.sliceBounds, h1, sizeOf, typeInfo, hi, h2]

/-- What Step hands back. -/
def Stp (w : World) (X K V : List Int) (e : Ending) (w' : World) : Prop := ∃ (a1 a2 a3 : Option Addr) (n1 n2 n3 c1 c2 c3 : Nat), e = .returned (.tuple #[.slice a1 n1 c1, .slice a2 n2 c2, .slice a3 n3 c3]) ∧
  Reads .i64 w' a1 n1 c1 X ∧ Reads .i64 w' a2 n2 c2 K ∧ Reads .i64 w' a3 n3 c3 V ∧ BlI w' a1 ∧ BlI w' a2 ∧ BlI w' a3 ∧ Below w.heap.size w w'

theorem step_no (p : Option Addr) (c : Cf) (la : Int) (a : Option Addr) (n cap : Nat) (zs : List Int) (k v : Value) (w : World) (hp : MdAt w p c) (hl : la < 0 ∨ c.layers ≤ la) (hx : Reads .i64 w a n cap zs) (hn : n ≤ 1000) :
    Calls Tryz.prog 8 #[.pointer p, .int .i64 la, .slice a n cap, k, v] w fun e w' => Stp w zs [] [] e w' := by
  have hC := config_any p c w hp
  have HX := hid hx
  obtain ⟨s, vo, d, l, tt, h⟩ := c
  unfold CfV at hC
  simp only at hC hl
  clear hp hx
  by_cases h0 : la < 0
  · clear hC hl
    go_enter Tryz.func8, Tryz.ntmps8
    go_wp2_with fail
    refine (clone_any a n cap zs _ HX.out hn).mono ?_
    rintro e w2 ⟨u, rfl, hO, hb⟩
    obtain ⟨a2, c2, rfl, hR⟩ := Reads.own (k := .i64) hO
    have HR := hid hR
    have HI := hid (BlI.own hO)
    have HB := hid hb
    clear hO hb hR HX
    go_wp2
    go_ret3
    exact ⟨_, _, _, _, _, _, _, _, _, rfl, HR.out, Reads.nil _ _, Reads.nil _ _, HI.out, BlI.none _, BlI.none _, HB.out⟩
  · have h1 : l ≤ la := by omega
    clear hl
    have hfd := fld_layers s vo d l tt h
    go_enter Tryz.func8, Tryz.ntmps8
    go_wp2_with fail
    refine hC.mono ?_
    rintro e w1 ⟨rfl, hb⟩
    replace HX := hid (HX.out.below hb)
    have HV := hid hb
    clear hb hC
    go_wp2_with fail
    refine (clone_any a n cap zs _ HX.out hn).mono ?_
    rintro e w2 ⟨u, rfl, hO, hb⟩
    obtain ⟨a2, c2, rfl, hR⟩ := Reads.own (k := .i64) hO
    have HR := hid hR
    have HI := hid (BlI.own hO)
    have HB := hid (HV.out.trans (hb.mono HV.out.size))
    clear hO hb hR HX HV
    go_wp2
    go_ret3
    exact ⟨_, _, _, _, _, _, _, _, _, rfl, HR.out, Reads.nil _ _, Reads.nil _ _, HI.out, BlI.none _, BlI.none _, HB.out⟩
end Go.Proofs.YtehmdlipacbpfaaGreat
