/-
  StepY: Contract: Step of a layer that is there.
  Mems: Memories: what lies at a pointer to one (MemAt); contracts: New, all, Layers, Len.
  Mems2: Contracts: New of any number, all, Layers, Len of a memory; first and with of a layer.
  Cuts: A memory that is laid layer by layer (MemUp); contract: Cut.
  Throughs: Contract: Through: what all layers make of a vector, and the memory behind it.
  Sames: Contracts: slices.Equal, slices.EqualFunc of rows and of layers, sameRows, places.same, Same of two memories.
  AFars: What the statements of layer 10 lean on: far tells of tables that are not too long; the small configuration; two memories that are not the same; Through along a list of vectors; alive is true.
  AAlive: Contract: alive of layer 10 is true.
  IArgs: An argument of a statement that is a list of numbers, as it came in.
  AArgs: The arguments of the statements of layer 10: a list of numbers, a table, as they came in; a slice of one and of two tables; 'same' of like lists.
  ACuts: A memory and a row of slices that grows: an append to the one turns nothing of the other.
  RSteps: The document's contracts in one form; an append of one value to a row of the call's own; contract: the document's Step.
  ROwns: Rows of slices of the call's own, two of one type side by side: an append to the one tells where its row then lies, and turns nothing of the other; a row of pairs of slices.
-/
import Derived.Test.YtjgggialnegddaaGreatPk04
import Derived.Test.YtjgggialnegddaaGreatPk01
import Derived.ProofKit
import Derived.Deep.Matrix
import Derived.Test.YtjgggialnegddaaGreatPk03
namespace Go.Proofs.YtjgggialnegddaaGreat
open Go.RowKit
set_option linter.unusedVariables false
set_option maxRecDepth 1000000

set_option maxHeartbeats 2000000 in
theorem step_yes (p : Option Addr) (c : Cf) (la : Int) (a : Option Addr) (n cap : Nat) (zs : List Int) (ka : Option Addr) (kn kc : Nat) (khs : List Hd) (ks : List (List Int)) (va : Option Addr) (vn vc : Nat) (vhs : List Hd) (vs : List (List Int)) (m : Nat) (w : World)
    (hp : MdAt w p c) (hc : mayB c = true) (l0 : 0 ≤ la) (l1 : la < c.layers) (hx : Reads .i64 w a n cap zs) (hn : n ≤ 1000) (hk : Tbl w ka kn kc khs ks) (hkl : ks.length = kn) (hkn : kn ≤ 900) (hv : Tbl w va vn vc vhs vs) (hvl : vs.length = vn) (hvn : vn ≤ 900) (hm : min kn vn = m) :
    Calls Tryz.prog 184 #[.pointer p, .int .i64 la, .slice a n cap, .slice ka kn kc, .slice va vn vc] w fun e w' => Stp w (outL c la zs (ks.take m) (vs.take m)) (keyL c la zs) (valL c la zs) e w' := by
  have hC := config_any p c w hp
  have HD := hid fun wh => tabL_len hc la wh
  have HR := hid fun wh W (hb : Below w.heap.size w W) => rows_h p c la wh W (hp.below hb) hc
  have HMk := hid fun b lb cb ys a n cap hs ls W (hb : Below w.heap.size w W) => marks_any p c b lb cb ys a n cap hs ls W (hp.below hb)
  have HFw := hid fun a n cap zs W (hb : Below w.heap.size w W) => forward_h p c la a n cap zs W (hp.below hb) hc
  have HX := hid fun W (hb : Below w.heap.size w W) => hx.below hb
  have HK := hid fun W (hb : Below w.heap.size w W) => (hk.below hb).cut (m := m) (by omega)
  have HVs := hid fun W (hb : Below w.heap.size w W) => (hv.below hb).cut (m := m) (by omega)
  have HKl : Hid ((ks.take m).length = m) := by unfold Hid; simp; omega
  have HVl : Hid ((vs.take m).length = m) := by unfold Hid; simp; omega
  have HS := hid hx.size
  have r1 : m ≤ kc := by have := hk.rd.room; omega
  have r2 : m ≤ vc := by have := hv.rd.room; omega
  have hmin : (if vn < kn then (vn : Int) else (kn : Int)) = (m : Int) := by split <;> omega
  have hm9 : m ≤ 900 := by omega
  have HNl := hid (normL_len zs)
  generalize hks : ks.take m = ks' at *
  generalize hvs : vs.take m = vs' at *
  have HOut : Hid (outL c la zs ks' vs' = addL (hidL c la zs ks' vs') (fwdL c la (hidL c la zs ks' vs'))) := rfl
  have HHid : Hid (hidL c la zs ks' vs' = addL zs (mulT (tabL c la 3) (mixL (softL ((ks' ++ [keyL c la zs]).map (markZ c (qryL c la zs)))) (vs' ++ [valL c la zs])))) := rfl
  have HQe : Hid (qryL c la zs = mulT (tabL c la 0) (normL zs)) := rfl
  have HKe : Hid (keyL c la zs = mulT (tabL c la 1) (normL zs)) := rfl
  have HVe : Hid (valL c la zs = mulT (tabL c la 2) (normL zs)) := rfl
  clear hp hx hk hv hkl hvl hks hvs hm
  obtain ⟨s, vo, d, l, tt, h⟩ := c
  have hfd := fld_layers s vo d l tt h
  unfold CfV at hC
  simp only at hC l1
  go_enter Tryz.func184, Tryz.ntmps184
  go_wp2_with fail
  refine hC.mono ?_
  rintro e w1 ⟨rfl, hb⟩
  have HV := hid hb
  clear hb hC
  go_wp2_with fail
  refine (norm_h a n cap zs _ (HX.out _ HV.out) hn).mono ?_
  rintro e w2 ⟨na, nn, nc, rfl, hR, hI, hb⟩
  replace HV := hid (HV.out.trans (hb.mono HV.out.size))
  have HN := hid hR
  have hnn : nn ≤ 1000 := by have := hR.size; have := HNl.out; have := HS.out; omega
  clear hR hI hb HNl hfd
  -- the query
  go_wp2_with fail
  refine (HR.out 0 _ HV.out).mono ?_
  rintro e w3 ⟨ta, tn, tc, ths, rfl, hT, htl, hb⟩
  replace HV := hid (HV.out.trans (hb.mono HV.out.size))
  replace HN := hid (HN.out.below hb)
  have HT := hid hT
  have HTl := hid htl
  have htn : tn ≤ 16 := by have := HD.out 0; omega
  clear hT hb htl
  go_wp2_with fail
  refine (mul_h ta na tn tc nn nc ths _ _ _ HT.out HTl.out HN.out (by omega) hnn).mono ?_
  rintro e w4 ⟨qa, qn, qc, rfl, hR, hI, hb⟩
  replace HV := hid (HV.out.trans (hb.mono HV.out.size))
  replace HN := hid (HN.out.below hb)
  have hqn : qn ≤ 1000 := by have := hR.size; rw [mulT_len] at this; have := HTl.out; omega
  rw [← HQe.out] at hR
  have HQ := hid hR
  clear hR hI hb HT HTl htn HQe
  -- the key
  go_wp2_with fail
  refine (HR.out 1 _ HV.out).mono ?_
  rintro e w5 ⟨ta, tn, tc, ths, rfl, hT, htl, hb⟩
  replace HV := hid (HV.out.trans (hb.mono HV.out.size))
  replace HN := hid (HN.out.below hb)
  replace HQ := hid (HQ.out.below hb)
  have HT := hid hT
  have HTl := hid htl
  have htn : tn ≤ 16 := by have := HD.out 1; omega
  clear hT hb htl
  go_wp2_with fail
  refine (mul_h ta na tn tc nn nc ths _ _ _ HT.out HTl.out HN.out (by omega) hnn).mono ?_
  rintro e w6 ⟨ya, yn, yc, rfl, hR, hI, hb⟩
  replace HV := hid (HV.out.trans (hb.mono HV.out.size))
  replace HN := hid (HN.out.below hb)
  replace HQ := hid (HQ.out.below hb)
  have hyn : yn ≤ 1000 := by have := hR.size; rw [mulT_len] at this; have := HTl.out; omega
  rw [← HKe.out] at hR
  have HY := hid hR
  have HYI := hid hI
  clear hR hI hb HT HTl htn HKe
  -- the value
  go_wp2_with fail
  refine (HR.out 2 _ HV.out).mono ?_
  rintro e w7 ⟨ta, tn, tc, ths, rfl, hT, htl, hb⟩
  replace HV := hid (HV.out.trans (hb.mono HV.out.size))
  replace HN := hid (HN.out.below hb)
  replace HQ := hid (HQ.out.below hb)
  replace HY := hid (HY.out.below hb)
  replace HYI := hid (HYI.out.below hb)
  have HT := hid hT
  have HTl := hid htl
  have htn : tn ≤ 16 := by have := HD.out 2; omega
  clear hT hb htl
  go_wp2_with fail
  refine (mul_h ta na tn tc nn nc ths _ _ _ HT.out HTl.out HN.out (by omega) hnn).mono ?_
  rintro e w8 ⟨za, zn, zc, rfl, hR, hI, hb⟩
  replace HV := hid (HV.out.trans (hb.mono HV.out.size))
  replace HQ := hid (HQ.out.below hb)
  replace HY := hid (HY.out.below hb)
  replace HYI := hid (HYI.out.below hb)
  have hzn : zn ≤ 16 := by have := hR.size; rw [mulT_len] at this; have := HTl.out; omega
  rw [← HVe.out] at hR
  have HZ := hid hR
  have HZI := hid hI
  clear hR hI hb HT HTl htn HN HVe hnn
  -- the marks
  go_wp2_with fail
  refine (behind_any ka m kc _ _ ya yn yc _ _ (HK.out _ HV.out) HKl.out (by omega) HY.out hyn).mono ?_
  rintro e w9 ⟨bg, bc, rfl, hT, hb⟩
  replace HV := hid (HV.out.trans (hb.mono HV.out.size))
  replace HQ := hid (HQ.out.below hb)
  replace HY := hid (HY.out.below hb)
  replace HYI := hid (HYI.out.below hb)
  replace HZ := hid (HZ.out.below hb)
  replace HZI := hid (HZI.out.below hb)
  have HT := hid hT
  clear hT hb HK
  go_wp2_with fail
  refine (HMk.out qa qn qc _ _ _ _ _ _ _ HV.out HQ.out hqn HT.out (by rw [List.length_append, HKl.out]; rfl) (by omega)).mono ?_
  rintro e w10 ⟨mg, mc, rfl, hO, hb⟩
  replace HV := hid (HV.out.trans (hb.mono HV.out.size))
  replace HY := hid (HY.out.below hb)
  replace HYI := hid (HYI.out.below hb)
  replace HZ := hid (HZ.out.below hb)
  replace HZI := hid (HZI.out.below hb)
  have HM := hid hO.reads
  clear hO hb HT HQ HMk
  go_wp2_with fail
  refine (soft_h _ _ _ _ _ HM.out (by omega)).mono ?_
  rintro e w11 ⟨sa, sn, sc, rfl, hR, hI, hb⟩
  replace HV := hid (HV.out.trans (hb.mono HV.out.size))
  replace HY := hid (HY.out.below hb)
  replace HYI := hid (HYI.out.below hb)
  replace HZ := hid (HZ.out.below hb)
  replace HZI := hid (HZI.out.below hb)
  have hsn : sn ≤ 1000 := by have := hR.size; rw [softL_len, HM.out.size] at this; omega
  have HW := hid hR
  clear hR hI hb HM
  -- the mix
  go_wp2_with fail
  refine (behind_any va m vc _ _ za zn zc _ _ (HVs.out _ HV.out) HVl.out (by omega) HZ.out (by omega)).mono ?_
  rintro e w12 ⟨bg, bc, rfl, hT, hb⟩
  replace HV := hid (HV.out.trans (hb.mono HV.out.size))
  replace HY := hid (HY.out.below hb)
  replace HYI := hid (HYI.out.below hb)
  replace HZ := hid (HZ.out.below hb)
  replace HZI := hid (HZI.out.below hb)
  replace HW := hid (HW.out.below hb)
  have HT := hid hT
  clear hT hb HVs
  have HTl : Hid ((vs' ++ [valL ⟨s, vo, d, l, tt, h⟩ la zs]).length = m + 1) := by unfold Hid; rw [List.length_append, HVl.out]; rfl
  go_wp2_with fail
  refine (mix_h _ _ _ _ _ _ _ _ _ _ HT.out HTl.out HW.out (by omega) hsn (by omega)).mono ?_
  rintro e w13 ⟨xa, xn, xc, rfl, hR, hI, hb⟩
  replace HV := hid (HV.out.trans (hb.mono HV.out.size))
  replace HY := hid (HY.out.below hb)
  replace HYI := hid (HYI.out.below hb)
  replace HZ := hid (HZ.out.below hb)
  replace HZI := hid (HZI.out.below hb)
  have hxn : xn ≤ 1000 := by
    rw [← hR.size]
    refine mixK_bd (fun i hi => ?_) _
    have h1 := HT.out.rows i (by rw [← HTl.out]; exact hi)
    rw [h1.size]
    exact HT.out.short i (by rw [← HTl.out]; exact hi)
  have HMx := hid hR
  clear hR hI hb HT HTl HW hsn
  go_wp2_with fail
  refine (HR.out 3 _ HV.out).mono ?_
  rintro e w14 ⟨ta, tn, tc, ths, rfl, hT, htl, hb⟩
  replace HV := hid (HV.out.trans (hb.mono HV.out.size))
  replace HY := hid (HY.out.below hb)
  replace HYI := hid (HYI.out.below hb)
  replace HZ := hid (HZ.out.below hb)
  replace HZI := hid (HZI.out.below hb)
  replace HMx := hid (HMx.out.below hb)
  have HT := hid hT
  have HTl := hid htl
  have htn : tn ≤ 16 := by have := HD.out 3; omega
  clear hT hb htl HR
  go_wp2_with fail
  refine (mul_h ta xa tn tc xn xc ths _ _ _ HT.out HTl.out HMx.out (by omega) hxn).mono ?_
  rintro e w15 ⟨oa, on, oc, rfl, hR, hI, hb⟩
  replace HV := hid (HV.out.trans (hb.mono HV.out.size))
  replace HY := hid (HY.out.below hb)
  replace HYI := hid (HYI.out.below hb)
  replace HZ := hid (HZ.out.below hb)
  replace HZI := hid (HZI.out.below hb)
  have hon : on ≤ 1000 := by have := hR.size; rw [mulT_len] at this; have := HTl.out; omega
  have HO := hid hR
  clear hR hI hb HT HTl htn HMx hxn
  go_wp2_with fail
  refine (add_h a oa n cap on oc _ _ _ (HX.out _ HV.out) HO.out hn hon).mono ?_
  rintro e w16 ⟨ha, hhn, hhc, rfl, hR, hI, hb⟩
  replace HV := hid (HV.out.trans (hb.mono HV.out.size))
  replace HY := hid (HY.out.below hb)
  replace HYI := hid (HYI.out.below hb)
  replace HZ := hid (HZ.out.below hb)
  replace HZI := hid (HZI.out.below hb)
  have hhn1 : hhn ≤ 1000 := by have := hR.size; rw [addL_len] at this; have := HS.out; omega
  rw [← HHid.out] at hR
  have HH := hid hR
  clear hR hI hb HO hon HX HHid
  go_wp2_with fail
  refine (HFw.out ha hhn hhc _ _ HV.out HH.out hhn1).mono ?_
  rintro e w17 ⟨fa, fn, fc, rfl, hR, hI, hb⟩
  replace HV := hid (HV.out.trans (hb.mono HV.out.size))
  replace HY := hid (HY.out.below hb)
  replace HYI := hid (HYI.out.below hb)
  replace HZ := hid (HZ.out.below hb)
  replace HZI := hid (HZI.out.below hb)
  replace HH := hid (HH.out.below hb)
  have hfn : fn ≤ 1000 := by
    rw [← hR.size]
    show (mulT _ _).length ≤ 1000
    rw [mulT_len]
    have := HD.out 5
    omega
  have HF := hid hR
  clear hR hI hb HFw
  go_wp2_with fail
  refine (add_h ha fa hhn hhc fn fc _ _ _ HH.out HF.out hhn1 hfn).mono ?_
  rintro e w18 ⟨ra, rn, rc, rfl, hR, hI, hb⟩
  replace HV := hid (HV.out.trans (hb.mono HV.out.size))
  replace HY := hid (HY.out.below hb)
  replace HYI := hid (HYI.out.below hb)
  replace HZ := hid (HZ.out.below hb)
  replace HZI := hid (HZI.out.below hb)
  rw [← HOut.out] at hR
  have HA := hid hR
  have HAI := hid hI
  clear hR hI hb HH HF
  go_wp2
  go_ret3
  exact ⟨_, _, _, _, _, _, _, _, _, rfl, HA.out, HY.out, HZ.out, HAI.out, HYI.out, HZI.out, HV.out⟩
end Go.Proofs.YtjgggialnegddaaGreat
namespace Go.Proofs.YtjgggialnegddaaGreat
open Go.RowKit
set_option linter.unusedVariables false
set_option maxRecDepth 1000000

/-- A layer's two slices. -/
abbrev Hp := Hd × Hd
def pk (ps : List Hp) (i : Nat) : Hp := ps[i]?.getD ((none, 0, 0), (none, 0, 0))
/-- Their cells. -/
def flatP : List Hp → List Value
  | [] => []
  | p :: r => hdV p.1 :: hdV p.2 :: flatP r
theorem flatP_len (ps : List Hp) : (flatP ps).length = ps.length * 2 := by
  induction ps with
  | nil => rfl
  | cons p r ih => simp only [flatP, List.length_cons, ih]; omega
theorem flatP_at0 (ps : List Hp) (i : Nat) (h : i < ps.length) : (flatP ps)[i * 2]? = some (hdV (pk ps i).1) := by
  induction ps generalizing i with
  | nil => simp at h
  | cons p r ih =>
    cases i with
    | zero => rfl
    | succ i =>
      rw [show (i + 1) * 2 = i * 2 + 1 + 1 by omega]
      simp only [flatP, List.getElem?_cons_succ]
      exact ih i (by simpa using h)
theorem flatP_at1 (ps : List Hp) (i : Nat) (h : i < ps.length) : (flatP ps)[i * 2 + 1]? = some (hdV (pk ps i).2) := by
  induction ps generalizing i with
  | nil => simp at h
  | cons p r ih =>
    cases i with
    | zero => rfl
    | succ i =>
      rw [show (i + 1) * 2 + 1 = i * 2 + 1 + 1 + 1 by omega]
      simp only [flatP, List.getElem?_cons_succ]
      exact ih i (by simpa using h)
theorem flatP_set (ps : List Hp) (k : Nat) (x y : Hd) : flatP (ps.set k (x, y)) = ((flatP ps).set (k * 2) (hdV x)).set (k * 2 + 1) (hdV y) := by
  induction ps generalizing k with
  | nil => rfl
  | cons p r ih =>
    cases k with
    | zero => rfl
    | succ k =>
      rw [show (k + 1) * 2 = k * 2 + 1 + 1 by omega]
      simp only [List.set_cons_succ, flatP, ih k]
/-- The row in block g, not below base, holds these layers. -/
def OwnP (base g n : Nat) (ps : List Hp) (w : World) : Prop := w.ownsRow base 226 2 (.slice (some ⟨g, 0, none⟩) n n) n (flatP ps)
theorem OwnP.len {base g n : Nat} {ps : List Hp} {w : World} (h : OwnP base g n ps w) : ps.length = n := by have := h.1; rw [flatP_len] at this; omega
theorem OwnP.cell0 {base g n : Nat} {ps : List Hp} {w : World} (h : OwnP base g n ps w) {k : Nat} (hk : k < n) : w.cell? ⟨g, k * 2, none⟩ = some (hdV (pk ps k).1) := by
  have hl := h.len
  rw [World.ownsRow.cellAt h (k * 2) (by omega)]
  exact flatP_at0 ps k (by omega)
theorem OwnP.cell1 {base g n : Nat} {ps : List Hp} {w : World} (h : OwnP base g n ps w) {k : Nat} (hk : k < n) : w.cell? ⟨g, k * 2 + 1, none⟩ = some (hdV (pk ps k).2) := by
  have hl := h.len
  rw [World.ownsRow.cellAt h (k * 2 + 1) (by omega)]
  exact flatP_at1 ps k (by omega)
theorem OwnP.frozen {base g n : Nat} {ps : List Hp} {w : World} (h : OwnP base g n ps w) (k : Nat) : w.frozen? ⟨g, k, none⟩ = false := World.ownsRow.frozenAt h k
theorem OwnP.set {base g n : Nat} {ps : List Hp} {w : World} (h : OwnP base g n ps w) (k : Nat) (x y : Hd) : OwnP base g n (ps.set k (x, y)) ((w.setCell ⟨g, k * 2, none⟩ (hdV x)).setCell ⟨g, k * 2 + 1, none⟩ (hdV y)) := by
  have h1 := (World.ownsRow.stored h (k * 2) (hdV x)).1
  have h2 := (World.ownsRow.stored h1 (k * 2 + 1) (hdV y)).1
  unfold OwnP
  rw [flatP_set]
  exact h2
theorem OwnP.base {base g n : Nat} {ps : List Hp} {w : World} (h : OwnP base g n ps w) : base ≤ g := (World.ownsRow.lt h g rfl).1
theorem OwnP.lt {base g n : Nat} {ps : List Hp} {w : World} (h : OwnP base g n ps w) : g < w.heap.size := (World.ownsRow.lt h g rfl).2
theorem OwnP.stays {base g n : Nat} {ps : List Hp} {w w' : World} (h : OwnP base g n ps w) (hb : Below w.heap.size w w') : OwnP base g n ps w' := own_below h hb
theorem OwnP.low {base base' g n : Nat} {ps : List Hp} {w : World} (h : OwnP base g n ps w) (hb : base' ≤ base) : OwnP base' g n ps w := own_base h hb
theorem OwnP.blk {base g n : Nat} {ps : List Hp} {w : World} (h : OwnP base g n ps w) : ∃ cur, w.heap[g]? = some (.cells cur 226 (0, 0)) := by
  rcases id h.2 with ⟨h', _⟩ | ⟨g', c, cur, hv, hB, hg, rest⟩
  · cases h'
  · cases hv; exact ⟨cur, hg⟩
theorem Tryz.infoP : (Tryz.prog.info? 226).map (fun i => (i.zero, i.size, i.bytes)) = some (some (.agg #[.slice none 0 0, .slice none 0 0]), 2, 48) := by kernel_rfl
/-- 'make' of m layers. -/
theorem make_plcs (w : World) (m : Nat) (hm : m ≤ 1001) : (Instr.makeSlice 223 (.int .i64 (m : Int)) (.int .i64 (m : Int))).run Tryz.prog w = .ok (.slice (some ⟨w.heap.size, 0, none⟩) m m) (w.alloc (.cells (madeCells #[.slice none 0 0, .slice none 0 0] (m * 2)) 226)) := by
  obtain ⟨i0, hi, hz0, hz1, hz2⟩ := info_parts Tryz.infoP
  have := run_make (P := Tryz.prog) w 223 226 i0 (.agg #[.slice none 0 0, .slice none 0 0]) Tryz.underlying223 hi hz0 .i64 .i64 (m : Int) (m : Int) (by omega) (Int.le_refl _) (by rw [hz2]; omega) (by omega)
  rw [this, hz1, Int.toNat_natCast]
  rfl
theorem toList_made_two (z : Value) (n : Nat) : (madeCells #[z, z] n).toList = List.replicate n z := by
  apply List.ext_getElem?
  intro j
  by_cases hj : j < n
  · rcases (by omega : j % 2 = 0 ∨ j % 2 = 1) with e | e <;> simp [madeCells, hj, e]
  · simp [madeCells, hj]
theorem flatP_none (m : Nat) : flatP (List.replicate m ((none, 0, 0), (none, 0, 0))) = List.replicate (m * 2) (.slice none 0 0) := by
  induction m with
  | zero => rfl
  | succ m ih =>
    rw [List.replicate_succ, show (m + 1) * 2 = m * 2 + 1 + 1 by omega, List.replicate_succ, List.replicate_succ]
    simp only [flatP, ih]
    rfl
theorem own_places (w : World) (m : Nat) (hm : m ≤ 1001) : OwnP w.heap.size w.heap.size m (List.replicate m ((none, 0, 0), (none, 0, 0))) (w.alloc (.cells (madeCells #[.slice none 0 0, .slice none 0 0] (m * 2)) 226)) := by
  have := World.ownsRow_lit (base := w.heap.size) (e := 226) (size := 2) w (madeCells #[.slice none 0 0, .slice none 0 0] (m * 2)) m (Nat.le_refl _) (by unfold maxLen; omega) (by simp [madeCells])
  unfold OwnP
  rw [flatP_none, ← toList_made_two]
  exact this
/-- What lies at a pointer to a memory that somebody made: its layers in block g, their slices, and what they read as. -/
structure MemB (W : World) (B g : Nat) (M : List KV) (ps : List Hp) : Prop where
  var : W.heap[B]? = some (.cells #[.slice (some ⟨g, 0, none⟩) M.length M.length] 229 (0, 0))
  own : OwnP 0 g M.length ps W
  rows : ∀ i, i < M.length → TbH W (pk ps i).1 (kv M i).1 ∧ TbH W (pk ps i).2 (kv M i).2
theorem MemB.below {W W' : World} {B g : Nat} {M : List KV} {ps : List Hp} (h : MemB W B g M ps) (hb : Below W.heap.size W W') : MemB W' B g M ps :=
  ⟨block_below h.var hb, h.own.stays hb, fun i hi => ⟨(h.rows i hi).1.below hb, (h.rows i hi).2.below hb⟩⟩
/-- The memory at a pointer has these keys and values, a nil one none. -/
def MemAt (W : World) (p : Option Addr) (M : List KV) : Prop := (p = none ∧ M = []) ∨ ∃ B g ps, p = some ⟨B, 0, none⟩ ∧ MemB W B g M ps
theorem MemAt.below {W W' : World} {p : Option Addr} {M : List KV} (h : MemAt W p M) (hb : Below W.heap.size W W') : MemAt W' p M := by
  rcases h with h | ⟨B, g, ps, hp, h⟩
  · exact .inl h
  · exact .inr ⟨B, g, ps, hp, h.below hb⟩
/-- The call hands back a memory that it made. -/
def MemG (w : World) (M : List KV) (e : Ending) (w' : World) : Prop := ∃ B g ps, e = .returned (.pointer (some ⟨B, 0, none⟩)) ∧ w.heap.size ≤ B ∧ w.heap.size ≤ g ∧ MemB w' B g M ps ∧ Below w.heap.size w w'
/-- The new one. -/
theorem mem_new (w : World) (m : Nat) (hm : m ≤ 4) : MemB ((w.alloc (.cells (madeCells #[.slice none 0 0, .slice none 0 0] (m * 2)) 226)).alloc (.cells #[.slice (some ⟨w.heap.size, 0, none⟩) m m] 229)) (w.heap.size + 1) w.heap.size (noneM m) (List.replicate m ((none, 0, 0), (none, 0, 0))) := by
  have h1 := own_places w m (by omega)
  have hb : Below (w.alloc (.cells (madeCells #[.slice none 0 0, .slice none 0 0] (m * 2)) 226)).heap.size _ ((w.alloc (.cells (madeCells #[.slice none 0 0, .slice none 0 0] (m * 2)) 226)).alloc (.cells #[.slice (some ⟨w.heap.size, 0, none⟩) m m] 229)) := (Below.refl _ _).alloc (Nat.le_refl _) _
  refine ⟨?_, ?_, fun i hi => ?_⟩
  · rw [noneM_len]
    have := heap_alloc_new (w.alloc (.cells (madeCells #[.slice none 0 0, .slice none 0 0] (m * 2)) 226)) (.cells #[.slice (some ⟨w.heap.size, 0, none⟩) m m] 229)
    rw [World.size_alloc] at this
    exact this
  · rw [noneM_len]
    exact (h1.low (Nat.zero_le _)).stays hb
  · rw [noneM_len] at hi
    rw [noneM_at]
    have : pk (List.replicate m ((none, 0, 0), (none, 0, 0))) i = ((none, 0, 0), (none, 0, 0)) := by simp [pk, hi]
    rw [this]
    exact ⟨TbH.nil _, TbH.nil _⟩
/-- How many layers New makes. -/
def clampL (n : Int) : Nat := (max 0 (min n 4)).toNat
theorem anew_nat (m : Nat) (w : World) (hm : m ≤ 4) : Calls Tryz.prog 148 #[.int .i64 m] w fun e w' => MemG w (noneM m) e w' := by
  have hmk := make_plcs w m (by omega)
  have HN := hid (mem_new w m hm)
  have HB : Hid (Below w.heap.size w ((w.alloc (.cells (madeCells #[.slice none 0 0, .slice none 0 0] (m * 2)) 226)).alloc (.cells #[.slice (some ⟨w.heap.size, 0, none⟩) m m] 229))) := ((Below.refl _ _).alloc (Nat.le_refl _) _).alloc (by simp) _
  have h1 : (if (4 : Int) < (m : Int) then (4 : Int) else (m : Int)) = (m : Int) := by split <;> omega
  have h2 : (if (0 : Int) < (m : Int) then (m : Int) else 0) = (m : Int) := by split <;> omega
  have h3 : (if 0 < m then (m : Int) else 0) = (m : Int) := by split <;> omega
  have h4 : (if 4 < m then (4 : Int) else (m : Int)) = (m : Int) := by split <;> omega
  go_enter Tryz.func148, Tryz.ntmps148
  go_wp2
  go_ret
  exact ⟨_, _, _, rfl, by omega, Nat.le_refl _, HN.out, HB.out⟩
end Go.Proofs.YtjgggialnegddaaGreat
namespace Go.Proofs.YtjgggialnegddaaGreat
open Go.RowKit
set_option linter.unusedVariables false
set_option maxRecDepth 1000000

theorem anew_any (n : Int) (w : World) : Calls Tryz.prog 148 #[.int .i64 n] w fun e w' => MemG w (noneM (clampL n)) e w' := by
  obtain ⟨m, hm⟩ : ∃ m, clampL n = m := ⟨_, rfl⟩
  obtain ⟨x, hx⟩ : ∃ x : Int, (if (4 : Int) < n then 4 else n) = x := ⟨_, rfl⟩
  have h4 : m ≤ 4 := by unfold clampL at hm; omega
  have hA : (if (0 : Int) < x then x else 0) = (m : Int) := by
    unfold clampL at hm
    rw [← hx]
    split <;> split at * <;> omega
  have hB : (if x < (0 : Int) then 0 else x) = (m : Int) := by
    unfold clampL at hm
    rw [← hx]
    split <;> split at * <;> omega
  rw [hm]
  clear hm
  have hmk := make_plcs w m (by omega)
  have HN := hid (mem_new w m h4)
  have HB : Hid (Below w.heap.size w ((w.alloc (.cells (madeCells #[.slice none 0 0, .slice none 0 0] (m * 2)) 226)).alloc (.cells #[.slice (some ⟨w.heap.size, 0, none⟩) m m] 229))) := ((Below.refl _ _).alloc (Nat.le_refl _) _).alloc (by simp) _
  go_enter Tryz.func148, Tryz.ntmps148
  go_wp2
  go_ret
  exact ⟨_, _, _, rfl, by omega, Nat.le_refl _, HN.out, HB.out⟩
theorem all_none (w : World) : Calls Tryz.prog 162 #[.pointer none] w fun e w' => e = .returned (.slice none 0 0) ∧ w' = w := by
  go_enter Tryz.func162, Tryz.ntmps162
  go_wp2
  go_ret
  exact ⟨rfl, rfl⟩
theorem all_some {B g : Nat} {M : List KV} {ps : List Hp} (w : World) (h : MemB w B g M ps) : Calls Tryz.prog 162 #[.pointer (some ⟨B, 0, none⟩)] w fun e w' => e = .returned (.slice (some ⟨g, 0, none⟩) M.length M.length) ∧ w' = w := by
  have cv := cell_of_one h.var
  clear h
  generalize M.length = L at *
  go_enter Tryz.func162, Tryz.ntmps162
  go_wp2
  go_ret
  exact ⟨rfl, rfl⟩
theorem layers_any (p : Option Addr) (M : List KV) (w : World) (h : MemAt w p M) : Calls Tryz.prog 161 #[.pointer p] w fun e w' => e = .returned (.int .i64 M.length) ∧ w' = w := by
  rcases h with ⟨rfl, rfl⟩ | ⟨B, g, ps, rfl, h⟩
  · go_enter Tryz.func161, Tryz.ntmps161
    go_wp2_with fail
    refine (all_none _).mono ?_
    rintro e w' ⟨rfl, rfl⟩
    go_wp2
    go_ret
    exact ⟨rfl, rfl⟩
  · have hA := all_some w h
    clear h
    generalize M.length = L at *
    go_enter Tryz.func161, Tryz.ntmps161
    go_wp2_with fail
    refine hA.mono ?_
    rintro e w' ⟨rfl, rfl⟩
    go_wp2
    go_ret
    exact ⟨rfl, rfl⟩
theorem len_any (p : Option Addr) (M : List KV) (q : Nat) (w : World) (h : MemAt w p M) (h0 : M.length = 0 → q = 0) (h1 : 0 < M.length → (kv M 0).1.length = q) (hM : M.length ≤ 4) : Calls Tryz.prog 160 #[.pointer p] w fun e w' => e = .returned (.int .i64 q) ∧ w' = w := by
  have hL := layers_any p M w h
  by_cases hz : M.length = 0
  · have hq := h0 hz
    subst hq
    rw [hz] at hL
    clear h0 h1 hM h hz
    go_enter Tryz.func160, Tryz.ntmps160
    go_wp2_with fail
    refine hL.mono ?_
    rintro e w' ⟨rfl, rfl⟩
    go_wp2
    go_ret
    exact ⟨rfl, rfl⟩
  · rcases h with ⟨rfl, rfl⟩ | ⟨B, g, ps, rfl, h⟩
    · exact absurd rfl hz
    · have cv := cell_of_one h.var
      have c0 := h.own.cell0 (k := 0) (by omega)
      have hr := (h.rows 0 (by omega)).1.1
      rw [h1 (by omega)] at hr
      rw [Nat.zero_mul] at c0
      clear h h0 h1
      generalize pk ps 0 = y at *
      obtain ⟨⟨y1, y2, y3⟩, y4⟩ := y
      unfold hdV at c0
      simp only at c0 hr
      subst hr
      generalize M.length = L at *
      have hz1 : (L : Int) ≠ 0 := by omega
      have hz2 : (0 : Int) < (L : Int) := by omega
      have hz3 : ((L : Int) == 0) = false := by simp; omega
      go_enter Tryz.func160, Tryz.ntmps160
      go_wp2_with fail
      refine hL.mono ?_
      rintro e w' ⟨rfl, rfl⟩
      go_wp2
      go_ret
      exact ⟨rfl, rfl⟩
theorem first_any (a1 a2 : Option Addr) (n1 c1 n2 c2 k : Nat) (w : World) (h1 : k ≤ c1) (h2 : k ≤ c2) (m1 : c1 ≤ 9223372036854775807) (m2 : c2 ≤ 9223372036854775807) :
    Calls Tryz.prog 163 #[.agg #[.slice a1 n1 c1, .slice a2 n2 c2], .int .i64 k] w fun e w' => e = .returned (.agg #[.slice a1 k k, .slice a2 k k]) ∧ Below w.heap.size w w' := by
  go_enter Tryz.func163, Tryz.ntmps163
  go_wp2_with fail
  go_region
  go_wp2
  exact bodyPost_ret (v := .agg #[.slice a1 k k, .slice a2 k k]) (by simp [results, Tryz.results163, go_sem]) rfl ⟨rfl, by go_grown⟩

theorem own_same {base e size n g c : Nat} {xs : List Value} {w w' : World} (h : w.ownsRow base e size (.slice (some ⟨g, 0, none⟩) n c) n xs) (hb : w'.heap[g]? = w.heap[g]?) : w'.ownsRow base e size (.slice (some ⟨g, 0, none⟩) n c) n xs := by
  refine ⟨h.1, ?_⟩
  rcases h.2 with h' | ⟨g', c', cur, hv, hB, hg, rest⟩
  · exact .inl h'
  · cases hv
    exact .inr ⟨g, c, cur, rfl, hB, hb.trans hg, rest⟩
theorem own_up {base base' e size n g c : Nat} {xs : List Value} {w : World} (h : w.ownsRow base e size (.slice (some ⟨g, 0, none⟩) n c) n xs) (hg : base' ≤ g) : w.ownsRow base' e size (.slice (some ⟨g, 0, none⟩) n c) n xs := by
  refine ⟨h.1, ?_⟩
  rcases h.2 with h' | ⟨g', c', cur, hv, hB, rest⟩
  · exact .inl h'
  · cases hv
    exact .inr ⟨g, c, cur, rfl, hg, rest⟩
/-- Cells of a block, one turned. -/
theorem row_setCell {w : World} {b k : Nat} {cs : Array Value} {u : Value} {T : TypeId} (h : w.heap[b]? = some (.cells cs T (0, 0))) : (w.setCell ⟨b, k, none⟩ u).heap[b]? = some (.cells (cs.setIfInBounds k u) T (0, 0)) := by
  have hlt := lt_of_block h
  have h' : w.heap[b] = .cells cs T (0, 0) := by simpa [Array.getElem?_eq_getElem hlt] using h
  show (w.heap.modify b _)[b]? = _
  rw [Array.getElem?_eq_getElem (by simpa using hlt), Array.getElem_modify_self, h']
  rfl
theorem BlS.own {w : World} {B n l c : Nat} {a : Option Addr} {xs : List Value} (h : w.ownsRow B 131 1 (.slice a l c) n xs) : BlS w a := by
  rcases h.2 with ⟨h', _⟩ | ⟨g, cap, cur, h', _, hg, _⟩
  · cases h'; exact BlS.none w
  · cases h'; intro p hp; cases hp; exact ⟨cur, (0, 0), hg⟩
theorem bli_snoc {W : World} {hs : List Hd} {y : Hd} {n : Nat} (hl : hs.length = n) (h : ∀ j, j < n → BlI W (hs[j]?.getD (none, 0, 0)).1) (hy : BlI W y.1) {i : Nat} (hi : i < n + 1) : BlI W ((hs ++ [y])[i]?.getD (none, 0, 0)).1 := by
  rw [at_snoc hs y _ hl hi]
  by_cases e : i < n
  · rw [if_pos e]; exact h i e
  · rw [if_neg e]; exact hy
/-- What 'with' hands back: two tables, each with a vector behind. -/
def WithG (w : World) (K V : List (List Int)) (e : Ending) (w' : World) : Prop := ∃ x y : Hd, e = .returned (.agg #[.slice x.1 x.2.1 x.2.2, .slice y.1 y.2.1 y.2.2]) ∧ TbH w' x K ∧ TbH w' y V ∧ (∀ ad, x.1 = some ad → w.heap.size ≤ ad.block) ∧ (∀ ad, y.1 = some ad → w.heap.size ≤ ad.block) ∧ Below w.heap.size w w'
theorem with_any (a1 a2 : Option Addr) (n1 c1 n2 c2 : Nat) (ls1 ls2 : List (List Int)) (b1 b2 : Option Addr) (k1 d1 k2 d2 : Nat) (ys1 ys2 : List Int) (w : World) (h1 : TbH w (a1, n1, c1) ls1) (h2 : TbH w (a2, n2, c2) ls2) (m1 : n1 ≤ 900) (m2 : n2 ≤ 900)
    (r1 : Reads .i64 w b1 k1 d1 ys1) (r2 : Reads .i64 w b2 k2 d2 ys2) (q1 : k1 ≤ 1000) (q2 : k2 ≤ 1000) (i1 : BlI w b1) (i2 : BlI w b2) :
    Calls Tryz.prog 185 #[.agg #[.slice a1 n1 c1, .slice a2 n2 c2], .slice b1 k1 d1, .slice b2 k2 d2] w fun e w' => WithG w (ls1 ++ [ys1]) (ls2 ++ [ys2]) e w' := by
  obtain ⟨l1, hs1, t1, s1, u1⟩ := h1
  obtain ⟨l2, hs2, t2, s2, u2⟩ := h2
  simp only at l1 l2 t1 t2 s1 s2 u1 u2
  obtain ⟨W0, hW0⟩ : ∃ W0, W0 = (w.alloc (.cells #[.slice a1 n1 c1, .slice a2 n2 c2] 226)).alloc (.cells #[.slice none 0 0, .slice none 0 0] 226) := ⟨_, rfl⟩
  have HB0 : Hid (Below w.heap.size w W0) := by unfold Hid; rw [hW0]; exact ((Below.refl _ _).alloc (Nat.le_refl _) _).alloc (by simp) _
  have HC1 := hid fun W (hb : Below W0.heap.size W0 W) => behind_own a1 n1 c1 hs1 b1 k1 d1 W ((t1.rd.below HB0.out).below hb) (by omega)
  have HC2 := hid fun W (hb : Below W0.heap.size W0 W) => behind_own a2 n2 c2 hs2 b2 k2 d2 W ((t2.rd.below HB0.out).below hb) (by omega)
  have HBx : Hid (W0.heap[w.heap.size]? = some (.cells #[.slice a1 n1 c1, .slice a2 n2 c2] 226 (0, 0))) := by
    unfold Hid; rw [hW0, Below.heap_alloc _ _ _ (by simp)]; exact heap_alloc_new w _
  have HBr : Hid (W0.heap[w.heap.size + 1]? = some (.cells #[.slice none 0 0, .slice none 0 0] 226 (0, 0))) := by
    unfold Hid; rw [hW0]
    have := heap_alloc_new (w.alloc (.cells #[.slice a1 n1 c1, .slice a2 n2 c2] 226)) (.cells #[.slice none 0 0, .slice none 0 0] 226)
    rw [World.size_alloc] at this
    exact this
  have HK : Hid (∀ W : World, Below W0.heap.size W0 W → W.cell? ⟨w.heap.size, 0, none⟩ = some (.slice a1 n1 c1) ∧ W.cell? ⟨w.heap.size, 1, none⟩ = some (.slice a2 n2 c2)) := fun W hb => by
    have := block_below HBx.out hb
    exact ⟨by rw [cell_of_row _ _ _ _ _ _ this]; rfl, by rw [cell_of_row _ _ _ _ _ _ this]; rfl⟩
  have HL1 : Hid ((ls1 ++ [ys1]).length = n1 + 1) := by unfold Hid; simp [l1]
  have HL2 : Hid ((ls2 ++ [ys2]).length = n2 + 1) := by unfold Hid; simp [l2]
  have HE1 : Hid (∀ (W : World) (g c : Nat), Below w.heap.size w W → OwnS 0 g (n1 + 1) c (hs1 ++ [(b1, k1, d1)]) W → TbH W (some ⟨g, 0, none⟩, n1 + 1, c) (ls1 ++ [ys1])) := fun W g c hb ho => ⟨HL1.out, _, Tbl.snoc (b := b1) (t1.below hb) l1 (r1.below hb) q1 ho.rd, BlS.own ho, fun i hi => bli_snoc t1.rd.size (fun j hj => (u1 j hj).below hb) (i1.below hb) hi⟩
  have HE2 : Hid (∀ (W : World) (g c : Nat), Below w.heap.size w W → OwnS 0 g (n2 + 1) c (hs2 ++ [(b2, k2, d2)]) W → TbH W (some ⟨g, 0, none⟩, n2 + 1, c) (ls2 ++ [ys2])) := fun W g c hb ho => ⟨HL2.out, _, Tbl.snoc (b := b2) (t2.below hb) l2 (r2.below hb) q2 ho.rd, BlS.own ho, fun i hi => bli_snoc t2.rd.size (fun j hj => (u2 j hj).below hb) (i2.below hb) hi⟩
  have HSz : Hid (w.heap.size + 1 < W0.heap.size) := by unfold Hid; rw [hW0]; simp
  have HU : Hid (Below W0.heap.size W0 W0.drew) := (Below.refl _ _).drew
  clear t1 t2 r1 r2 l1 l2 HL1 HL2 s1 s2 u1 u2 i1 i2
  go_enter Tryz.func185, Tryz.ntmps185
  go_wp2_with fail
  rw [← hW0]
  have HKS : Hid (∀ (W : World) (u v : Value), Below W0.heap.size W0 W → ((W.setCell ⟨w.heap.size + 1, 0, none⟩ u).setCell ⟨w.heap.size + 1, 1, none⟩ v).cell? ⟨w.heap.size, 0, none⟩ = some (.slice a1 n1 c1) ∧ ((W.setCell ⟨w.heap.size + 1, 0, none⟩ u).setCell ⟨w.heap.size + 1, 1, none⟩ v).cell? ⟨w.heap.size, 1, none⟩ = some (.slice a2 n2 c2)) := fun W u v hb => by
    have h1 := block_below HBx.out hb
    have h2 : ((W.setCell ⟨w.heap.size + 1, 0, none⟩ u).setCell ⟨w.heap.size + 1, 1, none⟩ v).heap[w.heap.size]? = some (.cells #[.slice a1 n1 c1, .slice a2 n2 c2] 226 (0, 0)) := by
      rw [Below.heap_setCell _ _ _ _ (by show w.heap.size ≠ w.heap.size + 1; omega), Below.heap_setCell _ _ _ _ (by show w.heap.size ≠ w.heap.size + 1; omega)]
      exact h1
    exact ⟨by rw [cell_of_row _ _ _ _ _ _ h2]; rfl, by rw [cell_of_row _ _ _ _ _ _ h2]; rfl⟩
  clear HBx hW0
  go_region_held3 (fun W : World => W.cell? ⟨w.heap.size, 0, none⟩ = some (.slice a1 n1 c1) ∧ W.cell? ⟨w.heap.size, 1, none⟩ = some (.slice a2 n2 c2)) (first | (with_reducible exact HK.out _ (Below.refl _ _)) | (with_reducible exact HK.out _ HU.out) | (with_reducible exact HKS.out _ _ _ HU.out))
    (first
      | (go_at_call 211; (with_reducible refine (HC1.out _ HU.out).mono ?_); rintro e z1 ⟨g1, e1, rfl, hT1, hb⟩; have HT1 := hid (hT1.low HU.out.size); replace HU := hid (HU.out.trans (hb.mono HU.out.size)); clear hT1 hb)
      | (go_at_call 211; (with_reducible refine (HC2.out _ HU.out).mono ?_); rintro e z2 ⟨g2, e2, rfl, hT2, hb⟩; have HT2 := hid (hT2.low HU.out.size); replace HT1 := hid (HT1.out.stays hb); replace HU := hid (HU.out.trans (hb.mono HU.out.size)); clear hT2 hb; have HRb := hid (block_below HBr.out HU.out); have cr0 := cell_of_row _ _ 0 _ _ _ HRb.out; have cr1 := cell_of_row _ _ 1 _ _ _ HRb.out; have fr := frozen_of_row _ _ 0 _ _ HRb.out; have fr1 := frozen_of_row _ _ 1 _ _ HRb.out))
  have HF : Hid (∀ (s1 s2 : Value), ((z2.setCell ⟨w.heap.size + 1, 0, none⟩ s1).setCell ⟨w.heap.size + 1, 1, none⟩ s2).heap[w.heap.size + 1]? = some (.cells #[s1, s2] 226 (0, 0)) ∧ Below w.heap.size w ((z2.setCell ⟨w.heap.size + 1, 0, none⟩ s1).setCell ⟨w.heap.size + 1, 1, none⟩ s2) ∧
      OwnS 0 g1 (n1 + 1) e1 (hs1 ++ [(b1, k1, d1)]) ((z2.setCell ⟨w.heap.size + 1, 0, none⟩ s1).setCell ⟨w.heap.size + 1, 1, none⟩ s2) ∧ OwnS 0 g2 (n2 + 1) e2 (hs2 ++ [(b2, k2, d2)]) ((z2.setCell ⟨w.heap.size + 1, 0, none⟩ s1).setCell ⟨w.heap.size + 1, 1, none⟩ s2)) := by
    intro s1 s2
    have hs := HSz.out
    have b1' := HT1.out.base
    have b2' := HT2.out.base
    have hbw := HB0.out.trans (HU.out.mono HB0.out.size)
    refine ⟨row_setCell (row_setCell HRb.out), (hbw.setCell (by show w.heap.size ≤ w.heap.size + 1; omega) _).setCell (by show w.heap.size ≤ w.heap.size + 1; omega) _, ?_, ?_⟩
    · refine own_same (HT1.out.low (Nat.zero_le _)) ?_
      rw [Below.heap_setCell _ _ _ _ (by show g1 ≠ w.heap.size + 1; omega), Below.heap_setCell _ _ _ _ (by show g1 ≠ w.heap.size + 1; omega)]
    · refine own_same (HT2.out.low (Nat.zero_le _)) ?_
      rw [Below.heap_setCell _ _ _ _ (by show g2 ≠ w.heap.size + 1; omega), Below.heap_setCell _ _ _ _ (by show g2 ≠ w.heap.size + 1; omega)]
  obtain ⟨hF1, hF2, hF3, hF4⟩ := HF.out (.slice (some ⟨g1, 0, none⟩) (n1 + 1) e1) (.slice (some ⟨g2, 0, none⟩) (n2 + 1) e2)
  generalize (z2.setCell ⟨w.heap.size + 1, 0, none⟩ (.slice (some ⟨g1, 0, none⟩) (n1 + 1) e1)).setCell ⟨w.heap.size + 1, 1, none⟩ (.slice (some ⟨g2, 0, none⟩) (n2 + 1) e2) = Wf at *
  have HY1 := hid (HE1.out Wf g1 e1 hF2 hF3)
  have HY2 := hid (HE2.out Wf g2 e2 hF2 hF4)
  have HY3 := hid hF2
  have f0 : Wf.cell? ⟨w.heap.size + 1, 0, none⟩ = some (.slice (some ⟨g1, 0, none⟩) (n1 + 1) e1) := by rw [cell_of_row _ _ _ _ _ _ hF1]; rfl
  have f1 : Wf.cell? ⟨w.heap.size + 1, 1, none⟩ = some (.slice (some ⟨g2, 0, none⟩) (n2 + 1) e2) := by rw [cell_of_row _ _ _ _ _ _ hF1]; rfl
  have HZ1 : Hid (w.heap.size ≤ g1) := Nat.le_trans HB0.out.size HT1.out.base
  have HZ2 : Hid (w.heap.size ≤ g2) := Nat.le_trans HB0.out.size HT2.out.base
  clear HF hF1 hF2 hF3 hF4 HRb cr0 cr1 fr fr1 HT1 HT2 HU HC1 HC2 HK HKS HE1 HE2 HBr HB0 HSz
  go_wp2
  exact bodyPost_ret (v := .agg #[.slice (some ⟨g1, 0, none⟩) (n1 + 1) e1, .slice (some ⟨g2, 0, none⟩) (n2 + 1) e2]) (by simp [results, Tryz.results185, go_sem, f0, f1]) rfl ⟨(some ⟨g1, 0, none⟩, n1 + 1, e1), (some ⟨g2, 0, none⟩, n2 + 1, e2), rfl, HY1.out, HY2.out, (fun ad h => by cases h; exact HZ1.out), (fun ad h => by cases h; exact HZ2.out), HY3.out⟩
end Go.Proofs.YtjgggialnegddaaGreat
namespace Go.Proofs.YtjgggialnegddaaGreat
open Go.RowKit
set_option linter.unusedVariables false
set_option maxRecDepth 1000000

/-- Of a memory of L layers the first k are laid. -/
structure MemUp (w : World) (B g L k : Nat) (F : Nat → KV) (ps : List Hp) (W : World) : Prop where
  var : W.heap[B]? = some (.cells #[.slice (some ⟨g, 0, none⟩) L L] 229 (0, 0))
  own : OwnP w.heap.size g L ps W
  lowB : w.heap.size ≤ B
  rows : ∀ i, i < k → TbH W (pk ps i).1 (F i).1 ∧ TbH W (pk ps i).2 (F i).2
  old : Below w.heap.size w W
theorem MemUp.below {w : World} {B g L k : Nat} {F : Nat → KV} {ps : List Hp} {W W' : World} (h : MemUp w B g L k F ps W) (hb : Below W.heap.size W W') : MemUp w B g L k F ps W' :=
  ⟨block_below h.var hb, h.own.stays hb, h.lowB, fun i hi => ⟨(h.rows i hi).1.below hb, (h.rows i hi).2.below hb⟩, h.old.trans (hb.mono h.old.size)⟩
theorem MemUp.apart {w : World} {B g L k : Nat} {F : Nat → KV} {ps : List Hp} {W : World} (h : MemUp w B g L k F ps W) : B ≠ g := by
  intro e
  obtain ⟨cur, hc⟩ := h.own.blk
  rw [← e, h.var] at hc
  simp at hc
theorem MemUp.step {w : World} {B g L k : Nat} {F : Nat → KV} {ps : List Hp} {W : World} (h : MemUp w B g L k F ps W) (hk : k < L) (x y : Hd) (hx : TbH W x (F k).1) (hy : TbH W y (F k).2) :
    MemUp w B g L (k + 1) F (ps.set k (x, y)) ((W.setCell ⟨g, k * 2, none⟩ (hdV x)).setCell ⟨g, k * 2 + 1, none⟩ (hdV y)) := by
  have hne := h.apart
  obtain ⟨cur, hc⟩ := h.own.blk
  have hl := h.own.len
  have hK : Kp 226 W ((W.setCell ⟨g, k * 2, none⟩ (hdV x)).setCell ⟨g, k * 2 + 1, none⟩ (hdV y)) := (Kp.set hc _).trans (Kp.set (row_setCell hc) _)
  refine ⟨?_, h.own.set k x y, h.lowB, fun i hi => ?_, (h.old.setCell h.own.base _).setCell h.own.base _⟩
  · rw [Below.heap_setCell _ _ _ _ (by exact hne), Below.heap_setCell _ _ _ _ (by exact hne)]
    exact h.var
  · by_cases e : i = k
    · subst e
      have : pk (ps.set i (x, y)) i = (x, y) := by simp [pk, (by omega : i < ps.length)]
      rw [this]
      exact ⟨hx.keep hK (by decide) (by decide), hy.keep hK (by decide) (by decide)⟩
    · have : pk (ps.set k (x, y)) i = pk ps i := by unfold pk; rw [List.getElem?_set_ne (by omega)]
      rw [this]
      obtain ⟨h1, h2⟩ := h.rows i (by omega)
      exact ⟨h1.keep hK (by decide) (by decide), h2.keep hK (by decide) (by decide)⟩
theorem MemUp.kept {w : World} {B g L k : Nat} {F : Nat → KV} {ps : List Hp} {W : World} (h : MemUp w B g L k F ps W) (j : Nat) (x y : Value) : Kp 226 W ((W.setCell ⟨g, j, none⟩ x).setCell ⟨g, j + 1, none⟩ y) := by
  obtain ⟨cur, hc⟩ := h.own.blk
  exact (Kp.set hc _).trans (Kp.set (row_setCell hc) _)
theorem MemUp.done {w : World} {B g L : Nat} {F : Nat → KV} {ps : List Hp} {W : World} (h : MemUp w B g L L F ps W) {M : List KV} (hl : M.length = L) (hF : ∀ i, i < L → kv M i = F i) : MemB W B g M ps := by
  subst hl
  exact ⟨h.var, h.own.low (Nat.zero_le _), fun i hi => by rw [hF i hi]; exact h.rows i hi⟩
theorem MemUp.start {w w' : World} {B g L : Nat} {ps : List Hp} (F : Nat → KV) (hB : w.heap.size ≤ B) (hg : w.heap.size ≤ g) (h : MemB w' B g (noneM L) ps) (hb : Below w.heap.size w w') : MemUp w B g L 0 F ps w' := by
  have hv := h.var
  have ho := h.own
  rw [noneM_len] at hv ho
  exact ⟨hv, own_up ho hg, hB, fun i hi => absurd hi (by omega), hb⟩
/-- Each layer has as many keys and values. -/
def Even (M : List KV) (q : Nat) : Prop := ∀ i, i < M.length → (kv M i).1.length = q ∧ (kv M i).2.length = q
/-- How many places a cut leaves. -/
def cutN (n : Int) (q : Nat) : Nat := (max 0 (min n q)).toNat

theorem held_cut0 {wr W1 W : World} {B : Nat} {v0 v1 v2 : Value} {T T2 : TypeId} (hv : wr.heap[B]? = some (.cells #[v0] T (0, 0))) (hx : W1.heap[wr.heap.size]? = some (.cells #[v1, v2] T2 (0, 0))) (h1 : Below wr.heap.size wr W1) (hb : Below W1.heap.size W1 W) :
    W.cell? ⟨B, 0, none⟩ = some v0 ∧ W.cell? ⟨wr.heap.size, 0, none⟩ = some v1 ∧ W.cell? ⟨wr.heap.size, 1, none⟩ = some v2 := by
  have e1 := block_below (block_below hv h1) hb
  have e2 := block_below hx hb
  exact ⟨by rw [cell_of_row _ _ _ _ _ _ e1]; rfl, by rw [cell_of_row _ _ _ _ _ _ e2]; rfl, by rw [cell_of_row _ _ _ _ _ _ e2]; rfl⟩
theorem held_cut {wr W1 W : World} {B g : Nat} {v0 v1 v2 : Value} {T T2 : TypeId} (hv : wr.heap[B]? = some (.cells #[v0] T (0, 0))) (hx : W1.heap[wr.heap.size]? = some (.cells #[v1, v2] T2 (0, 0))) (hB : B ≠ g) (hg : g ≠ wr.heap.size) (h1 : Below wr.heap.size wr W1) (hb : Below W1.heap.size W1 W) (j : Nat) (x y : Value) :
    ((W.setCell ⟨g, j, none⟩ x).setCell ⟨g, j + 1, none⟩ y).cell? ⟨B, 0, none⟩ = some v0 ∧ ((W.setCell ⟨g, j, none⟩ x).setCell ⟨g, j + 1, none⟩ y).cell? ⟨wr.heap.size, 0, none⟩ = some v1 ∧ ((W.setCell ⟨g, j, none⟩ x).setCell ⟨g, j + 1, none⟩ y).cell? ⟨wr.heap.size, 1, none⟩ = some v2 := by
  have e1 : ((W.setCell ⟨g, j, none⟩ x).setCell ⟨g, j + 1, none⟩ y).heap[B]? = some (.cells #[v0] T (0, 0)) := by
    rw [Below.heap_setCell _ _ _ _ (by exact hB), Below.heap_setCell _ _ _ _ (by exact hB)]
    exact block_below (block_below hv h1) hb
  have e2 : ((W.setCell ⟨g, j, none⟩ x).setCell ⟨g, j + 1, none⟩ y).heap[wr.heap.size]? = some (.cells #[v1, v2] T2 (0, 0)) := by
    rw [Below.heap_setCell _ _ _ _ (by exact fun e => hg e.symm), Below.heap_setCell _ _ _ _ (by exact fun e => hg e.symm)]
    exact block_below hx hb
  exact ⟨by rw [cell_of_row _ _ _ _ _ _ e1]; rfl, by rw [cell_of_row _ _ _ _ _ _ e2]; rfl, by rw [cell_of_row _ _ _ _ _ _ e2]; rfl⟩
set_option maxHeartbeats 2000000 in
theorem cut_any (p : Option Addr) (M : List KV) (n : Int) (q : Nat) (w : World) (h : MemAt w p M) (hM : M.length ≤ 4) (hE : Even M q) (hq : q ≤ 900) (h0 : M.length = 0 → q = 0) :
    Calls Tryz.prog 115 #[.pointer p, .int .i64 n] w fun e w' => MemG w (cutM M (cutN n q)) e w' := by
  obtain ⟨m, hm⟩ : ∃ m, cutN n q = m := ⟨_, rfl⟩
  obtain ⟨x, hx⟩ : ∃ x : Int, (if (q : Int) < n then (q : Int) else n) = x := ⟨_, rfl⟩
  have hmq : m ≤ q := by unfold cutN at hm; omega
  have hA : (if (0 : Int) < x then x else 0) = (m : Int) := by
    unfold cutN at hm
    rw [← hx]
    split <;> split at * <;> omega
  have hB : (if x < (0 : Int) then 0 else x) = (m : Int) := by
    unfold cutN at hm
    rw [← hx]
    split <;> split at * <;> omega
  rw [hm]
  clear hm
  have HLn := hid (len_any p M q w h h0 (fun hp => (hE 0 hp).1) hM)
  have HLy := hid (layers_any p M w h)
  have HNw := hid fun W => anew_nat M.length W hM
  have HF : Hid (∀ i, i < M.length → kv (cutM M m) i = ((kv M i).1.take m, (kv M i).2.take m)) := fun i hi => cutM_at M m i
  have HCl := hid (cutM_len M m)
  rcases h with ⟨rfl, rfl⟩ | ⟨B0, g0, ps0, rfl, h⟩
  · simp only [List.length_nil] at HLy HNw HCl
    clear h0 hE hM
    go_enter Tryz.func115, Tryz.ntmps115
    go_wp2_with fail
    refine HLn.out.mono ?_
    rintro e w' ⟨rfl, rfl⟩
    rename World => w
    go_wp2_with fail
    refine HLy.out.mono ?_
    rintro e w' ⟨rfl, rfl⟩
    rename World => w
    go_wp2_with fail
    refine (HNw.out _).mono ?_
    rintro e w2 ⟨B, g, ps, rfl, hB1, hg1, hM1, hb⟩
    have HM1 := hid hM1
    have HB1 := hid hB1
    have HG1 := hid hg1
    have HV := hid hb
    clear hM1 hB1 hg1 hb HLn HLy HNw
    go_wp2_with fail
    refine (all_none _).mono ?_
    rintro e w' ⟨rfl, rfl⟩
    rename World => w2
    go_wp2_with fail
    go_loopw [19] (fun i W => i = .int .i64 0 ∧ W = w2) (fun i _ => 0)
    case atStart => exact ⟨rfl, rfl⟩
    case round =>
      obtain ⟨rfl, rfl⟩ := hrel
      go_wp2
      go_ret
      exact ⟨_, _, _, rfl, HB1.out, HG1.out, HM1.out, HV.out⟩
  · have HA := hid fun W (hb : Below w.heap.size w W) => all_some W (h.below hb)
    have HH := hid fun W (hb : Below w.heap.size w W) => h.below hb
    have HEv := hid hE
    clear h hE h0
    generalize hL : M.length = L at *
    go_enter Tryz.func115, Tryz.ntmps115
    go_wp2_with fail
    refine HLn.out.mono ?_
    rintro e w' ⟨rfl, rfl⟩
    rename World => w
    go_wp2_with fail
    refine HLy.out.mono ?_
    rintro e w' ⟨rfl, rfl⟩
    rename World => w
    go_wp2_with fail
    refine (HNw.out _).mono ?_
    rintro e w2 ⟨B, g, ps, rfl, hB1, hg1, hM1, hb⟩
    have HU0 := hid (MemUp.start (fun i => ((kv M i).1.take m, (kv M i).2.take m)) hB1 hg1 hM1 hb)
    clear hM1 hB1 hg1 HLn HLy HNw
    go_wp2_with fail
    refine (HA.out _ hb).mono ?_
    rintro e w' ⟨rfl, rfl⟩
    rename World => w2
    clear hb HA
    go_wp2_with fail
    go_loopw [19] (fun i W => ∃ (k : Nat) (ps : List Hp), k ≤ L ∧ i = .int .i64 k ∧ Hid (MemUp w B g L k (fun i => ((kv M i).1.take m, (kv M i).2.take m)) ps W)) (fun i _ => L - (intOf i).toNat)
    case atStart => exact ⟨0, _, Nat.zero_le _, rfl, HU0⟩
    case round =>
      obtain ⟨k, ps, hk, rfl, HU⟩ := hrel
      clear HU0
      by_cases hlt : k < L
      · have hq1 : (k : Int) < (L : Int) := by omega
        have hH := HH.out wr HU.out.old
        have c0 := hH.own.cell0 (k := k) (by omega)
        have c1 := hH.own.cell1 (k := k) (by omega)
        obtain ⟨t1, t2⟩ := hH.rows k (by omega)
        have HT1 := hid t1
        have HT2 := hid t2
        have e1 := t1.1
        have e2 := t2.1
        obtain ⟨s1, s2⟩ := HEv.out k (by omega)
        generalize pk ps0 k = y at *
        obtain ⟨⟨y1, y2, y3⟩, ⟨v1, v2, v3⟩⟩ := y
        simp only at e1 e2
        have r1 := HT1.out.2.choose_spec.1.rd.room
        have r2 := HT2.out.2.choose_spec.1.rd.room
        have r3 := HT1.out.2.choose_spec.1.rd.most
        have r4 := HT2.out.2.choose_spec.1.rd.most
        simp only at r1 r2 r3 r4
        have r5 : m ≤ y3 := by omega
        have r6 : m ≤ v3 := by omega
        unfold hdV at c0 c1
        simp only at c0 c1
        clear hH t1 t2 HH HEv r1 r2
        have hy2 : m ≤ y2 := by omega
        have hv2 : m ≤ v2 := by omega
        clear e1 e2 s1 s2
        obtain ⟨W1, hW1⟩ : ∃ W1, W1 = wr.alloc (.cells #[.slice y1 y2 y3, .slice v1 v2 v3] 226) := ⟨_, rfl⟩
        have HX1 : Hid (Below wr.heap.size wr W1) := by unfold Hid; rw [hW1]; exact (Below.refl _ _).alloc (Nat.le_refl _) _
        have HBx : Hid (W1.heap[wr.heap.size]? = some (.cells #[.slice y1 y2 y3, .slice v1 v2 v3] 226 (0, 0))) := by unfold Hid; rw [hW1]; exact heap_alloc_new wr _
        have hBg := HU.out.apart
        have hglt := HU.out.own.lt
        have HC := hid fun W (u v : Value) (hb : Below W1.heap.size W1 W) => held_cut HU.out.var HBx.out hBg (by omega : g ≠ wr.heap.size) HX1.out hb (k * 2) u v
        have HC0 := hid fun W (hb : Below W1.heap.size W1 W) => held_cut0 HU.out.var HBx.out HX1.out hb
        have HX : Hid (Below W1.heap.size W1 W1.drew) := (Below.refl _ _).drew
        clear hBg hglt
        go_wp2_with fail
        rw [← hW1]
        clear hW1 HBx
        go_region_held3 (fun W : World => W.cell? ⟨B, 0, none⟩ = some (.slice (some ⟨g, 0, none⟩) L L) ∧ W.cell? ⟨wr.heap.size, 0, none⟩ = some (.slice y1 y2 y3) ∧ W.cell? ⟨wr.heap.size, 1, none⟩ = some (.slice v1 v2 v3))
          (first | (with_reducible exact HC0.out _ (Below.refl _ _)) | (with_reducible exact HC0.out _ HX.out) | (with_reducible exact HC.out _ _ _ HX.out))
          (first | (go_at_call 163; (with_reducible refine (first_any y1 v1 y2 y3 v2 v3 m _ r5 r6 r3 r4).mono ?_); rintro e z1 ⟨rfl, hb⟩; replace HX := hid (HX.out.trans (hb.mono HX.out.size)); have HUz := hid ((HU.out.below HX1.out).below HX.out); have ck0 := HUz.out.own.cell0 hlt; have ck1 := HUz.out.own.cell1 hlt; have fk0 := HUz.out.own.frozen (k * 2); have fk1 := HUz.out.own.frozen (k * 2 + 1); unfold hdV at ck0 ck1; clear hb))
        have HUn := hid (HUz.out.step hlt (y1, m, m) (v1, m, m) (((HT1.out.below HX1.out).below HX.out).cut (by omega)) (((HT2.out.below HX1.out).below HX.out).cut (by omega)))
        clear HUz HU HT1 HT2 HX HX1 HC HC0 ck0 ck1 fk0 fk1 c0 c1
        go_wp2_with fail
        go_round
        case rel => exact ⟨k + 1, _, by omega, by go_num, HUn⟩
        case measure => simp [intOf]; omega
      · obtain rfl : k = L := by omega
        have HD := hid (HU.out.done (M := cutM M m) (HCl.out) HF.out)
        have hB1 := hid HU.out.lowB
        have hg1 := hid HU.out.own.base
        have HV := hid HU.out.old
        clear HU HH HEv HF HCl
        go_wp2
        go_ret
        exact ⟨_, _, _, rfl, hB1.out, hg1.out, HD.out, HV.out⟩
end Go.Proofs.YtjgggialnegddaaGreat
namespace Go.Proofs.YtjgggialnegddaaGreat
open Go.RowKit
set_option linter.unusedVariables false
set_option maxRecDepth 1000000

/-- A layer's slices lie in blocks that were not there. -/
def Fr2 (w : World) (x : Hp) : Prop := (∀ ad, x.1.1 = some ad → w.heap.size ≤ ad.block) ∧ ∀ ad, x.2.1 = some ad → w.heap.size ≤ ad.block
/-- What Through hands back. -/
def ThrG (w : World) (X : List Int) (N : List KV) (e : Ending) (w' : World) : Prop := ∃ (a : Option Addr) (n cap B g : Nat) (ps : List Hp), e = .returned (.tuple #[.slice a n cap, .pointer (some ⟨B, 0, none⟩)]) ∧ Reads .i64 w' a n cap X ∧ BlI w' a ∧ MemB w' B g N ps ∧ (∀ i, i < N.length → Fr2 w (pk ps i)) ∧ Below w.heap.size w w'
theorem Fr2.up {w w' : World} {x : Hp} (h : Fr2 w' x) (hs : w.heap.size ≤ w'.heap.size) : Fr2 w x := ⟨fun ad e => Nat.le_trans hs (h.1 ad e), fun ad e => Nat.le_trans hs (h.2 ad e)⟩
theorem fr2_set {w : World} {ps : List Hp} {L k : Nat} {x : Hp} (hl : ps.length = L) (hk : k < L) (h : ∀ i, i < k → Fr2 w (pk ps i)) (hx : Fr2 w x) : ∀ i, i < k + 1 → Fr2 w (pk (ps.set k x) i) := by
  intro i hi
  by_cases e : i = k
  · subst e
    have : pk (ps.set i x) i = x := by simp [pk, (by omega : i < ps.length)]
    rw [this]
    exact hx
  · have : pk (ps.set k x) i = pk ps i := by unfold pk; rw [List.getElem?_set_ne (by omega)]
    rw [this]
    exact h i (by omega)
/-- The memory that Through goes on from: one of another number of layers counts as an empty one. -/
def fromM (M : List KV) (L : Nat) : List KV := if M.length = L then M else noneM L
/-- What stands between the rounds of Through. -/
def ThrAt (w : World) (c : Cf) (M : List KV) (zs : List Int) (B g L k : Nat) (u : Value) (W : World) : Prop :=
  ∃ (a : Option Addr) (n cap : Nat) (ps : List Hp), u = .slice a n cap ∧ n ≤ 1000 ∧ Reads .i64 W a n cap (thrX c M zs k) ∧ BlI W a ∧ MemUp w B g L k (fun j => ((kv M j).1 ++ [keyL c j (thrX c M zs j)], (kv M j).2 ++ [valL c j (thrX c M zs j)])) ps W ∧ ∀ i, i < k → Fr2 w (pk ps i)

set_option maxHeartbeats 4000000 in
theorem through_nat (p : Option Addr) (s v d tt h : Int) (L : Nat) (qm : Option Addr) (M : List KV) (q0 : Nat) (a : Option Addr) (n cap : Nat) (zs : List Int) (w : World) (hp : MdAt w p ⟨s, v, d, (L : Int), tt, h⟩) (hc : mayB ⟨s, v, d, (L : Int), tt, h⟩ = true) (hL : L ≤ 4) (hm : MemAt w qm M) (hM : M.length ≤ 4) (hE : Even (fromM M L) q0) (hq : q0 ≤ 900)
    (hx : Reads .i64 w a n cap zs) (hn : n ≤ 1000) (L1 : 1 ≤ L) :
    Calls Tryz.prog 153 #[.pointer p, .pointer qm, .slice a n cap] w fun e w' => ThrG w (thrX ⟨s, v, d, (L : Int), tt, h⟩ (fromM M L) zs L) (thrM ⟨s, v, d, (L : Int), tt, h⟩ (fromM M L) zs L) e w' := by
  have hC := config_any p _ w hp
  have HMd := hid fun W (hb : Below w.heap.size w W) => hp.below hb
  have HX := hid fun W (hb : Below w.heap.size w W) => hx.below hb
  have HLy := hid fun W (hb : Below w.heap.size w W) => layers_any qm M W (hm.below hb)
  have HMm := hid fun W (hb : Below w.heap.size w W) => hm.below hb
  have HZl : Hid (zs.length ≤ 1000) := by unfold Hid; rw [hx.size]; exact hn
  have HNw := hid fun W => anew_nat L W hL
  have HEv := hid hE
  have hfd := fld_layers s v d L tt h
  unfold CfV at hC
  simp only at hC
  clear hp hx hm hE
  by_cases hml : M.length = L
  · have hF : fromM M L = M := by unfold fromM; rw [if_pos hml]
    rw [hF] at HEv ⊢
    rw [hml] at HLy
    have hB0 : ∃ B0 g0 ps0, qm = some ⟨B0, 0, none⟩ ∧ ∀ W, Below w.heap.size w W → MemB W B0 g0 M ps0 := by
      rcases HMm.out w (Below.refl _ _) with ⟨rfl, rfl⟩ | ⟨B0, g0, ps0, rfl, hh⟩
      · simp at hml; omega
      · exact ⟨B0, g0, ps0, rfl, fun W hb => hh.below hb⟩
    obtain ⟨B0, g0, ps0, rfl, hH⟩ := hB0
    have HH := hid hH
    have HA := hid fun W (hb : Below w.heap.size w W) => all_some W (hH W hb)
    rw [hml] at HA
    have HML := hid hml
    clear hF hH HMm hM
    go_enter Tryz.func153, Tryz.ntmps153
    go_wp2_with fail
    refine hC.mono ?_
    rintro e w1 ⟨rfl, hb⟩
    have HV := hid hb
    clear hb hC
    go_wp2_with fail
    refine (HLy.out _ HV.out).mono ?_
    rintro e w' ⟨rfl, rfl⟩
    rename World => w1
    clear HLy
    go_wp2_with fail
    refine (clone_any a n cap zs _ (HX.out _ HV.out) hn).mono ?_
    rintro e w3 ⟨u, rfl, hO, hb⟩
    obtain ⟨ca, cc, rfl, hCr⟩ := Reads.own (k := .i64) hO
    have HCr := hid hCr
    have HCi := hid (BlI.own hO)
    replace HV := hid (HV.out.trans (hb.mono HV.out.size))
    clear hO hb hCr HX
    go_wp2_with fail
    refine (HNw.out _).mono ?_
    rintro e w4 ⟨B, g, ps, rfl, hB1, hg1, hM1, hb⟩
    replace HCr := hid (HCr.out.below hb)
    replace HCi := hid (HCi.out.below hb)
    have HU0 := hid (MemUp.start (fun j => ((kv M j).1 ++ [keyL ⟨s, v, d, (L : Int), tt, h⟩ j (thrX ⟨s, v, d, (L : Int), tt, h⟩ M zs j)], (kv M j).2 ++ [valL ⟨s, v, d, (L : Int), tt, h⟩ j (thrX ⟨s, v, d, (L : Int), tt, h⟩ M zs j)])) (Nat.le_trans HV.out.size hB1) (Nat.le_trans HV.out.size hg1) hM1 (HV.out.trans (hb.mono HV.out.size)))
    replace HV := hid (HV.out.trans (hb.mono HV.out.size))
    have HT0 : Hid (ThrAt w ⟨s, v, d, (L : Int), tt, h⟩ M zs B g L 0 (.slice ca n cc) w4) := ⟨ca, n, cc, ps, rfl, hn, HCr.out, HCi.out, HU0.out, fun i hi => absurd hi (by omega)⟩
    clear hM1 hB1 hg1 HNw HU0 HCr HCi hb hfd
    go_wp2_with fail
    refine (HA.out _ HV.out).mono ?_
    rintro e w' ⟨rfl, rfl⟩
    rename World => w4
    clear HA HV
    go_wp2_with fail
    go_loopw [9, 31] (fun u i W => ∃ k : Nat, k ≤ L ∧ i = .int .i64 k ∧ Hid (ThrAt w ⟨s, v, d, (L : Int), tt, h⟩ M zs B g L k u W)) (fun _ i _ => L - (intOf i).toNat)
    case atStart => exact ⟨0, Nat.zero_le _, rfl, HT0⟩
    case round =>
      obtain ⟨k, hk, rfl, HT⟩ := hrel
      clear HT0
      by_cases hlt : k < L
      · obtain ⟨a, n, cap, ps, rfl, hn, hR, hI, hU, hFr⟩ := HT.out
        have HR := hid hR
        have HU := hid hU
        have HFr := hid hFr
        clear hFr
        have hq1 : (k : Int) < (L : Int) := by omega
        have hH := HH.out wr hU.old
        have c0 := hH.own.cell0 (k := k) (by rw [HML.out]; exact hlt)
        have c1 := hH.own.cell1 (k := k) (by rw [HML.out]; exact hlt)
        obtain ⟨t1, t2⟩ := hH.rows k (by rw [HML.out]; exact hlt)
        have HT1 := hid t1
        have HT2 := hid t2
        obtain ⟨s1, s2⟩ := HEv.out k (by rw [HML.out]; exact hlt)
        generalize pk ps0 k = y at *
        obtain ⟨⟨y1, y2, y3⟩, ⟨v1, v2, v3⟩⟩ := y
        have e1 : y2 = q0 := by have := t1.1; simp only at this; omega
        have e2 : v2 = q0 := by have := t2.1; simp only at this; omega
        subst e1
        subst e2
        unfold hdV at c0 c1
        simp only at c0 c1
        obtain ⟨W1, hW1⟩ : ∃ W1, W1 = wr.alloc (.cells #[.slice y1 v2 y3, .slice v1 v2 v3] 226) := ⟨_, rfl⟩
        have HX1 : Hid (Below wr.heap.size wr W1) := by unfold Hid; rw [hW1]; exact (Below.refl _ _).alloc (Nat.le_refl _) _
        have HBx : Hid (W1.heap[wr.heap.size]? = some (.cells #[.slice y1 v2 y3, .slice v1 v2 v3] 226 (0, 0))) := by unfold Hid; rw [hW1]; exact heap_alloc_new wr _
        have hBg := HU.out.apart
        have hglt := HU.out.own.lt
        have HC := hid fun W (u v : Value) (hb : Below W1.heap.size W1 W) => held_cut HU.out.var HBx.out hBg (by omega : g ≠ wr.heap.size) HX1.out hb (k * 2) u v
        have HC0 := hid fun W (hb : Below W1.heap.size W1 W) => held_cut0 HU.out.var HBx.out HX1.out hb
        have hS : Calls Tryz.prog 184 #[.pointer p, .int .i64 (k : Int), .slice a n cap, .slice y1 v2 y3, .slice v1 v2 v3] W1 fun e w' => Stp W1 (thrX ⟨s, v, d, (L : Int), tt, h⟩ M zs (k + 1)) (keyL ⟨s, v, d, (L : Int), tt, h⟩ k (thrX ⟨s, v, d, (L : Int), tt, h⟩ M zs k)) (valL ⟨s, v, d, (L : Int), tt, h⟩ k (thrX ⟨s, v, d, (L : Int), tt, h⟩ M zs k)) e w' := by
          obtain ⟨hs1, f1, _, _⟩ := (t1.below HX1.out).2
          obtain ⟨hs2, f2, _, _⟩ := (t2.below HX1.out).2
          have := step_yes p ⟨s, v, d, (L : Int), tt, h⟩ k a n cap (thrX ⟨s, v, d, (L : Int), tt, h⟩ M zs k) y1 v2 y3 hs1 (kv M k).1 v1 v2 v3 hs2 (kv M k).2 v2 W1 (HMd.out _ (hU.old.trans (HX1.out.mono hU.old.size))) hc (by omega) (by show (k : Int) < (L : Int); omega) (hR.below HX1.out) hn f1 t1.1 (by omega) f2 t2.1 (by omega) (by omega)
          rw [List.take_of_length_le (by omega), List.take_of_length_le (by omega)] at this
          exact this
        have HKl : Hid ((keyL ⟨s, v, d, (L : Int), tt, h⟩ k (thrX ⟨s, v, d, (L : Int), tt, h⟩ M zs k)).length ≤ 16) := keyL_len hc _ _
        have HVl : Hid ((valL ⟨s, v, d, (L : Int), tt, h⟩ k (thrX ⟨s, v, d, (L : Int), tt, h⟩ M zs k)).length ≤ 16) := valL_len hc _ _
        have HXl : Hid ((thrX ⟨s, v, d, (L : Int), tt, h⟩ M zs (k + 1)).length ≤ 1000) := Nat.le_trans (thrX_len _ _ _ _) HZl.out
        have HSz : Hid ((kv M k).1.length = v2) := s1
        clear hBg hglt hR hI hU hH t1 t2 s1 s2 HH HEv HMd HT HZl
        go_wp2_with fail
        rw [← hW1]
        refine hS.mono ?_
        rintro e w2 ⟨b1, b2, b3, n1, n2, n3, d1, d2, d3, rfl, hR1, hR2, hR3, hI1, hI2, hI3, hb⟩
        have HX := hid hb
        have HR1 := hid hR1
        have HR2 := hid hR2
        have HR3 := hid hR3
        have HI1 := hid hI1
        have HI2 := hid hI2
        have HI3 := hid hI3
        have x0 := (HC0.out _ hb).1
        have x1 := (HC0.out _ hb).2.1
        have x2 := (HC0.out _ hb).2.2
        have HWi := hid fun W (hw : Below w2.heap.size w2 W) => with_any y1 v1 v2 y3 v2 v3 _ _ b2 b3 n2 d2 n3 d3 _ _ W (((HT1.out.below HX1.out).below hb).below hw) (((HT2.out.below HX1.out).below hb).below hw) (by omega) (by omega) (hR2.below hw) (hR3.below hw) (by have := hR2.size; have := HKl.out; omega) (by have := hR3.size; have := HVl.out; omega) (hI2.below hw) (hI3.below hw)
        clear hb hS hR1 hR2 hR3 hI1 hI2 hI3 hW1 HBx HR c0 c1 HT1 HT2
        go_wp2_with fail
        have HY : Hid (Below w2.heap.size w2 w2.drew) := (Below.refl _ _).drew
        have HD0 := hid fun W (hb : Below w2.heap.size w2 W) => HC0.out W (HX.out.trans (hb.mono HX.out.size))
        have HDs := hid fun W u v (hb : Below w2.heap.size w2 W) => HC.out W u v (HX.out.trans (hb.mono HX.out.size))
        clear HC HC0 x0 x1 x2
        go_region_held3 (fun W : World => W.cell? ⟨B, 0, none⟩ = some (.slice (some ⟨g, 0, none⟩) L L) ∧ W.cell? ⟨wr.heap.size, 0, none⟩ = some (.slice y1 v2 y3) ∧ W.cell? ⟨wr.heap.size, 1, none⟩ = some (.slice v1 v2 v3))
          (first | (with_reducible exact HD0.out _ (Below.refl _ _)) | (with_reducible exact HD0.out _ HY.out) | (with_reducible exact HDs.out _ _ _ HY.out))
          (first | (go_at_call 185; (with_reducible refine (HWi.out _ HY.out).mono ?_); rintro e z1 ⟨⟨o1, o2, o3⟩, ⟨o4, o5, o6⟩, rfl, hx, hy, hf1, hf2, hb⟩; have HF2 : Hid (Fr2 w ((o1, o2, o3), (o4, o5, o6))) := ⟨fun ad h => Nat.le_trans (Nat.le_trans HU.out.old.size (Nat.le_trans HX1.out.size (Nat.le_trans HX.out.size HY.out.size))) (hf1 ad h), fun ad h => Nat.le_trans (Nat.le_trans HU.out.old.size (Nat.le_trans HX1.out.size (Nat.le_trans HX.out.size HY.out.size))) (hf2 ad h)⟩; clear hf1 hf2; replace HY := hid (HY.out.trans (hb.mono HY.out.size)); have HUz := hid (((HU.out.below HX1.out).below HX.out).below HY.out); have ck0 := HUz.out.own.cell0 hlt; have ck1 := HUz.out.own.cell1 hlt; have fk0 := HUz.out.own.frozen (k * 2); have fk1 := HUz.out.own.frozen (k * 2 + 1); unfold hdV at ck0 ck1; have HTx := hid hx; have HTy := hid hy; clear hb hx hy))
        have HUn := hid (HUz.out.step hlt (o1, o2, o3) (o4, o5, o6) HTx.out HTy.out)
        have HRn := hid (Reads.keep (HR1.out.below HY.out) (HI1.out.below HY.out) (HUz.out.kept (k * 2) (.slice o1 o2 o3) (.slice o4 o5 o6)) (by decide))
        have HFn : Hid (∀ i, i < k + 1 → Fr2 w (pk (ps.set k ((o1, o2, o3), (o4, o5, o6))) i)) := fr2_set HUz.out.own.len hlt HFr.out HF2.out
        have hn1 : Hid (n1 ≤ 1000) := by have := HR1.out.size; have := HXl.out; unfold Hid; omega
        have HTn : Hid (ThrAt w ⟨s, v, d, (L : Int), tt, h⟩ M zs B g L (k + 1) (.slice b1 n1 d1) ((z1.setCell ⟨g, k * 2, none⟩ (.slice o1 o2 o3)).setCell ⟨g, k * 2 + 1, none⟩ (.slice o4 o5 o6))) := ⟨b1, n1, d1, _, rfl, hn1.out, HRn.out.1, HRn.out.2, HUn.out, HFn.out⟩
        clear HFr HF2 HFn HUz HU HTx HTy HX HX1 HD0 HDs ck0 ck1 fk0 fk1 HUn HRn HR1 HR2 HR3 HI1 HI2 HI3 HY HWi HKl HVl HXl hn1 HSz
        go_wp2_with fail
        go_round
        case rel => exact ⟨k + 1, by omega, by go_num, HTn⟩
        case measure => simp [intOf]; omega
      · obtain rfl : L = k := by omega
        obtain ⟨a, n, cap, ps, rfl, hn, hR, hI, hU, hFr⟩ := HT.out
        have HFr := hid hFr
        have HD := hid (hU.done (M := thrM ⟨s, v, d, (L : Int), tt, h⟩ M zs L) (thrM_len _ _ _ _) (fun i hi => thrM_at _ _ _ hi))
        have HR := hid hR
        have HI := hid hI
        have HV := hid hU.old
        clear HT HH HEv hR hI hU HMd hn hFr
        go_wp2
        go_ret2
        exact ⟨_, _, _, _, _, _, rfl, HR.out, HI.out, HD.out, fun i hi => HFr.out i (by rw [thrM_len] at hi; exact hi), HV.out⟩
  · have hF : fromM M L = noneM L := by unfold fromM; rw [if_neg hml]
    rw [hF] at HEv ⊢
    have HML := hid (noneM_len L)
    clear hF HMm
    generalize M.length = ml at *
    have hne : ¬ (ml : Int) = (L : Int) := by omega
    go_enter Tryz.func153, Tryz.ntmps153
    go_wp2_with fail
    refine hC.mono ?_
    rintro e w1 ⟨rfl, hb⟩
    have HV := hid hb
    clear hb hC
    go_wp2_with fail
    refine (HLy.out _ HV.out).mono ?_
    rintro e w' ⟨rfl, rfl⟩
    rename World => w1
    clear HLy
    go_wp2_with fail
    refine (HNw.out _).mono ?_
    rintro e w2 ⟨B0, g0, ps0, rfl, hB1, hg1, hM1, hb⟩
    have HH0 := hid hM1
    replace HV := hid (HV.out.trans (hb.mono HV.out.size))
    clear hM1 hB1 hg1 hb
    go_wp2_with fail
    refine (clone_any a n cap zs _ (HX.out _ HV.out) hn).mono ?_
    rintro e w3 ⟨u, rfl, hO, hb⟩
    obtain ⟨ca, cc, rfl, hCr⟩ := Reads.own (k := .i64) hO
    have HCr := hid hCr
    have HCi := hid (BlI.own hO)
    replace HH0 := hid (HH0.out.below hb)
    replace HV := hid (HV.out.trans (hb.mono HV.out.size))
    clear hO hb hCr HX
    go_wp2_with fail
    have HS3 := hid HV.out
    refine (HNw.out _).mono ?_
    rintro e w4 ⟨B, g, ps, rfl, hB1, hg1, hM1, hb⟩
    have HH : Hid (∀ W : World, Below w3.heap.size w3 W → MemB W B0 g0 (noneM L) ps0) := fun W hw => HH0.out.below hw
    have HA := hid (all_some _ (HH0.out.below hb))
    rw [HML.out] at HA
    replace HCr := hid (HCr.out.below hb)
    replace HCi := hid (HCi.out.below hb)
    have HU0 := hid (MemUp.start (fun j => ((kv (noneM L) j).1 ++ [keyL ⟨s, v, d, (L : Int), tt, h⟩ j (thrX ⟨s, v, d, (L : Int), tt, h⟩ (noneM L) zs j)], (kv (noneM L) j).2 ++ [valL ⟨s, v, d, (L : Int), tt, h⟩ j (thrX ⟨s, v, d, (L : Int), tt, h⟩ (noneM L) zs j)])) hB1 hg1 hM1 hb)
    have HT0 : Hid (ThrAt w3 ⟨s, v, d, (L : Int), tt, h⟩ (noneM L) zs B g L 0 (.slice ca n cc) w4) := ⟨ca, n, cc, ps, rfl, hn, HCr.out, HCi.out, HU0.out, fun i hi => absurd hi (by omega)⟩
    replace HMd : Hid (∀ W, Below w3.heap.size w3 W → MdAt W p ⟨s, v, d, (L : Int), tt, h⟩) := fun W hw => HMd.out W (HS3.out.trans (hw.mono HS3.out.size))
    clear hM1 hB1 hg1 HNw HU0 HCr HCi hb hfd HH0
    go_wp2_with fail
    refine HA.out.mono ?_
    rintro e w' ⟨rfl, rfl⟩
    rename World => w4
    clear HA HV
    go_wp2_with fail
    go_loopw [9, 31] (fun u i W => ∃ k : Nat, k ≤ L ∧ i = .int .i64 k ∧ Hid (ThrAt w3 ⟨s, v, d, (L : Int), tt, h⟩ (noneM L) zs B g L k u W)) (fun _ i _ => L - (intOf i).toNat)
    case atStart => exact ⟨0, Nat.zero_le _, rfl, HT0⟩
    case round =>
      obtain ⟨k, hk, rfl, HT⟩ := hrel
      clear HT0
      by_cases hlt : k < L
      · obtain ⟨a, n, cap, ps, rfl, hn, hR, hI, hU, hFr⟩ := HT.out
        have HR := hid hR
        have HU := hid hU
        have HFr := hid hFr
        clear hFr
        have hq1 : (k : Int) < (L : Int) := by omega
        have hH := HH.out wr hU.old
        have c0 := hH.own.cell0 (k := k) (by rw [HML.out]; exact hlt)
        have c1 := hH.own.cell1 (k := k) (by rw [HML.out]; exact hlt)
        obtain ⟨t1, t2⟩ := hH.rows k (by rw [HML.out]; exact hlt)
        have HT1 := hid t1
        have HT2 := hid t2
        obtain ⟨s1, s2⟩ := HEv.out k (by rw [HML.out]; exact hlt)
        generalize pk ps0 k = y at *
        obtain ⟨⟨y1, y2, y3⟩, ⟨v1, v2, v3⟩⟩ := y
        have e1 : y2 = q0 := by have := t1.1; simp only at this; omega
        have e2 : v2 = q0 := by have := t2.1; simp only at this; omega
        subst e1
        subst e2
        unfold hdV at c0 c1
        simp only at c0 c1
        obtain ⟨W1, hW1⟩ : ∃ W1, W1 = wr.alloc (.cells #[.slice y1 v2 y3, .slice v1 v2 v3] 226) := ⟨_, rfl⟩
        have HX1 : Hid (Below wr.heap.size wr W1) := by unfold Hid; rw [hW1]; exact (Below.refl _ _).alloc (Nat.le_refl _) _
        have HBx : Hid (W1.heap[wr.heap.size]? = some (.cells #[.slice y1 v2 y3, .slice v1 v2 v3] 226 (0, 0))) := by unfold Hid; rw [hW1]; exact heap_alloc_new wr _
        have hBg := HU.out.apart
        have hglt := HU.out.own.lt
        have HC := hid fun W (u v : Value) (hb : Below W1.heap.size W1 W) => held_cut HU.out.var HBx.out hBg (by omega : g ≠ wr.heap.size) HX1.out hb (k * 2) u v
        have HC0 := hid fun W (hb : Below W1.heap.size W1 W) => held_cut0 HU.out.var HBx.out HX1.out hb
        have hS : Calls Tryz.prog 184 #[.pointer p, .int .i64 (k : Int), .slice a n cap, .slice y1 v2 y3, .slice v1 v2 v3] W1 fun e w' => Stp W1 (thrX ⟨s, v, d, (L : Int), tt, h⟩ (noneM L) zs (k + 1)) (keyL ⟨s, v, d, (L : Int), tt, h⟩ k (thrX ⟨s, v, d, (L : Int), tt, h⟩ (noneM L) zs k)) (valL ⟨s, v, d, (L : Int), tt, h⟩ k (thrX ⟨s, v, d, (L : Int), tt, h⟩ (noneM L) zs k)) e w' := by
          obtain ⟨hs1, f1, _, _⟩ := (t1.below HX1.out).2
          obtain ⟨hs2, f2, _, _⟩ := (t2.below HX1.out).2
          have := step_yes p ⟨s, v, d, (L : Int), tt, h⟩ k a n cap (thrX ⟨s, v, d, (L : Int), tt, h⟩ (noneM L) zs k) y1 v2 y3 hs1 (kv (noneM L) k).1 v1 v2 v3 hs2 (kv (noneM L) k).2 v2 W1 (HMd.out _ (hU.old.trans (HX1.out.mono hU.old.size))) hc (by omega) (by show (k : Int) < (L : Int); omega) (hR.below HX1.out) hn f1 t1.1 (by omega) f2 t2.1 (by omega) (by omega)
          rw [List.take_of_length_le (by omega), List.take_of_length_le (by omega)] at this
          exact this
        have HKl : Hid ((keyL ⟨s, v, d, (L : Int), tt, h⟩ k (thrX ⟨s, v, d, (L : Int), tt, h⟩ (noneM L) zs k)).length ≤ 16) := keyL_len hc _ _
        have HVl : Hid ((valL ⟨s, v, d, (L : Int), tt, h⟩ k (thrX ⟨s, v, d, (L : Int), tt, h⟩ (noneM L) zs k)).length ≤ 16) := valL_len hc _ _
        have HXl : Hid ((thrX ⟨s, v, d, (L : Int), tt, h⟩ (noneM L) zs (k + 1)).length ≤ 1000) := Nat.le_trans (thrX_len _ _ _ _) HZl.out
        have HSz : Hid ((kv (noneM L) k).1.length = v2) := s1
        clear hBg hglt hR hI hU hH t1 t2 s1 s2 HH HEv HMd HT HZl
        go_wp2_with fail
        rw [← hW1]
        refine hS.mono ?_
        rintro e w2 ⟨b1, b2, b3, n1, n2, n3, d1, d2, d3, rfl, hR1, hR2, hR3, hI1, hI2, hI3, hb⟩
        have HX := hid hb
        have HR1 := hid hR1
        have HR2 := hid hR2
        have HR3 := hid hR3
        have HI1 := hid hI1
        have HI2 := hid hI2
        have HI3 := hid hI3
        have x0 := (HC0.out _ hb).1
        have x1 := (HC0.out _ hb).2.1
        have x2 := (HC0.out _ hb).2.2
        have HWi := hid fun W (hw : Below w2.heap.size w2 W) => with_any y1 v1 v2 y3 v2 v3 _ _ b2 b3 n2 d2 n3 d3 _ _ W (((HT1.out.below HX1.out).below hb).below hw) (((HT2.out.below HX1.out).below hb).below hw) (by omega) (by omega) (hR2.below hw) (hR3.below hw) (by have := hR2.size; have := HKl.out; omega) (by have := hR3.size; have := HVl.out; omega) (hI2.below hw) (hI3.below hw)
        clear hb hS hR1 hR2 hR3 hI1 hI2 hI3 hW1 HBx HR c0 c1 HT1 HT2
        go_wp2_with fail
        have HY : Hid (Below w2.heap.size w2 w2.drew) := (Below.refl _ _).drew
        have HD0 := hid fun W (hb : Below w2.heap.size w2 W) => HC0.out W (HX.out.trans (hb.mono HX.out.size))
        have HDs := hid fun W u v (hb : Below w2.heap.size w2 W) => HC.out W u v (HX.out.trans (hb.mono HX.out.size))
        clear HC HC0 x0 x1 x2
        go_region_held3 (fun W : World => W.cell? ⟨B, 0, none⟩ = some (.slice (some ⟨g, 0, none⟩) L L) ∧ W.cell? ⟨wr.heap.size, 0, none⟩ = some (.slice y1 v2 y3) ∧ W.cell? ⟨wr.heap.size, 1, none⟩ = some (.slice v1 v2 v3))
          (first | (with_reducible exact HD0.out _ (Below.refl _ _)) | (with_reducible exact HD0.out _ HY.out) | (with_reducible exact HDs.out _ _ _ HY.out))
          (first | (go_at_call 185; (with_reducible refine (HWi.out _ HY.out).mono ?_); rintro e z1 ⟨⟨o1, o2, o3⟩, ⟨o4, o5, o6⟩, rfl, hx, hy, hf1, hf2, hb⟩; have HF2 : Hid (Fr2 w3 ((o1, o2, o3), (o4, o5, o6))) := ⟨fun ad h => Nat.le_trans (Nat.le_trans HU.out.old.size (Nat.le_trans HX1.out.size (Nat.le_trans HX.out.size HY.out.size))) (hf1 ad h), fun ad h => Nat.le_trans (Nat.le_trans HU.out.old.size (Nat.le_trans HX1.out.size (Nat.le_trans HX.out.size HY.out.size))) (hf2 ad h)⟩; clear hf1 hf2; replace HY := hid (HY.out.trans (hb.mono HY.out.size)); have HUz := hid (((HU.out.below HX1.out).below HX.out).below HY.out); have ck0 := HUz.out.own.cell0 hlt; have ck1 := HUz.out.own.cell1 hlt; have fk0 := HUz.out.own.frozen (k * 2); have fk1 := HUz.out.own.frozen (k * 2 + 1); unfold hdV at ck0 ck1; have HTx := hid hx; have HTy := hid hy; clear hb hx hy))
        have HUn := hid (HUz.out.step hlt (o1, o2, o3) (o4, o5, o6) HTx.out HTy.out)
        have HRn := hid (Reads.keep (HR1.out.below HY.out) (HI1.out.below HY.out) (HUz.out.kept (k * 2) (.slice o1 o2 o3) (.slice o4 o5 o6)) (by decide))
        have HFn : Hid (∀ i, i < k + 1 → Fr2 w3 (pk (ps.set k ((o1, o2, o3), (o4, o5, o6))) i)) := fr2_set HUz.out.own.len hlt HFr.out HF2.out
        have hn1 : Hid (n1 ≤ 1000) := by have := HR1.out.size; have := HXl.out; unfold Hid; omega
        have HTn : Hid (ThrAt w3 ⟨s, v, d, (L : Int), tt, h⟩ (noneM L) zs B g L (k + 1) (.slice b1 n1 d1) ((z1.setCell ⟨g, k * 2, none⟩ (.slice o1 o2 o3)).setCell ⟨g, k * 2 + 1, none⟩ (.slice o4 o5 o6))) := ⟨b1, n1, d1, _, rfl, hn1.out, HRn.out.1, HRn.out.2, HUn.out, HFn.out⟩
        clear HFr HF2 HFn HUz HU HTx HTy HX HX1 HD0 HDs ck0 ck1 fk0 fk1 HUn HRn HR1 HR2 HR3 HI1 HI2 HI3 HY HWi HKl HVl HXl hn1 HSz
        go_wp2_with fail
        go_round
        case rel => exact ⟨k + 1, by omega, by go_num, HTn⟩
        case measure => simp [intOf]; omega
      · obtain rfl : L = k := by omega
        obtain ⟨a, n, cap, ps, rfl, hn, hR, hI, hU, hFr⟩ := HT.out
        have HFr := hid hFr
        have HD := hid (hU.done (M := thrM ⟨s, v, d, (L : Int), tt, h⟩ (noneM L) zs L) (thrM_len _ _ _ _) (fun i hi => thrM_at _ _ _ hi))
        have HR := hid hR
        have HI := hid hI
        have HV := hid hU.old
        clear HT HH HEv hR hI hU HMd hn hFr
        go_wp2
        go_ret2
        exact ⟨_, _, _, _, _, _, rfl, HR.out, HI.out, HD.out, fun i hi => (HFr.out i (by rw [thrM_len] at hi; exact hi)).up HS3.out.size, HS3.out.trans (HV.out.mono HS3.out.size)⟩
end Go.Proofs.YtjgggialnegddaaGreat
namespace Go.Proofs.YtjgggialnegddaaGreat
open Go.RowKit
set_option linter.unusedVariables false
set_option maxRecDepth 1000000

/-- Two slices' cells in one block. -/
theorem two_cells {W : World} {g : Nat} {x y : Value} {T : TypeId} (h : W.heap[g]? = some (.cells #[x, y] T (0, 0))) : W.cell? ⟨g, 0, none⟩ = some x ∧ W.cell? ⟨g, 1, none⟩ = some y :=
  ⟨by rw [cell_of_row _ _ _ _ _ _ h]; rfl, by rw [cell_of_row _ _ _ _ _ _ h]; rfl⟩
theorem cell_later_of {w w' : World} {p : Addr} {v : Value} (h : w.cell? p = some v) (hb : Below w.heap.size w w') : w'.cell? p = some v := (hb.cell (World.block_lt_of_cell? _ _ h)).trans h
/-- A list of layers reads as these. -/
structure PlR (W : World) (a : Option Addr) (n : Nat) (M : List KV) : Prop where
  len : M.length = n
  cell : ∀ k, k < n → ∃ g ps, a = some ⟨g, 0, none⟩ ∧ OwnP 0 g n ps W ∧ TbH W (pk ps k).1 (kv M k).1 ∧ TbH W (pk ps k).2 (kv M k).2
theorem PlR.below {W W' : World} {a : Option Addr} {n : Nat} {M : List KV} (h : PlR W a n M) (hb : Below W.heap.size W W') : PlR W' a n M :=
  ⟨h.len, fun k hk => by
    obtain ⟨g, ps, h1, h2, h3, h4⟩ := h.cell k hk
    exact ⟨g, ps, h1, h2.stays hb, h3.below hb, h4.below hb⟩⟩
theorem all_g (p : Option Addr) (M : List KV) (w : World) (h : MemAt w p M) : Calls Tryz.prog 162 #[.pointer p] w fun e w' => ∃ a, e = .returned (.slice a M.length M.length) ∧ PlR w a M.length M ∧ w' = w := by
  rcases h with ⟨rfl, rfl⟩ | ⟨B, g, ps, rfl, h⟩
  · exact (all_none w).mono fun e w' ⟨h1, h2⟩ => ⟨none, h1, ⟨rfl, fun k hk => absurd hk (by simp)⟩, h2⟩
  · exact (all_some w h).mono fun e w' ⟨h1, h2⟩ => ⟨_, h1, ⟨rfl, fun k hk => ⟨g, ps, rfl, h.own, h.rows k hk⟩⟩, h2⟩
end Go.Proofs.YtjgggialnegddaaGreat
namespace Go.Proofs.YtjgggialnegddaaGreat
open Go.RowKit
set_option linter.unusedVariables false
set_option maxRecDepth 1000000

/-- None of these tables is too long. -/
def NotFar (n : Nat) (hs3 : List Hd) (T : Nat → List Hd) : Prop := n ≤ 40 ∧ ∀ i, i < hs3.length → (hs3[i]?.getD (none, 0, 0)).2.1 ≤ 30 ∧ ∀ j, j < (hs3[i]?.getD (none, 0, 0)).2.1 → ((T i)[j]?.getD (none, 0, 0)).2.1 ≤ 40
/-- What far answers. -/
def FarG (w : World) (n : Nat) (hs3 : List Hd) (T : Nat → List Hd) (e : Ending) (w' : World) : Prop := ∃ b, e = .returned (.bool b) ∧ (b = false → NotFar n hs3 T) ∧ w' = w
theorem may_small : mayB ⟨5, 4, 2, 2, 1, 0⟩ = true := by decide
/-- Through, along a list of vectors. -/
theorem memL_even (c : Cf) (L : Nat) (xs : List (List Int)) (k : Nat) : Even (memL c L xs k) k := fun i hi => memL_at c L xs k (by rw [memL_len] at hi; exact hi)
theorem cf_lay {c : Cf} (h : mayB c = true) : ∃ L : Nat, c = ⟨c.seed, c.vocab, c.dim, (L : Int), c.top, c.heat⟩ ∧ c.layers = L ∧ c.layers.toNat = L ∧ 1 ≤ L ∧ L ≤ 4 := by
  have := may_parts h
  refine ⟨c.layers.toNat, ?_, (Int.toNat_of_nonneg (by omega)).symm, rfl, by omega, by omega⟩
  rw [Int.toNat_of_nonneg (by omega)]
theorem through_any (p : Option Addr) (c : Cf) (qm : Option Addr) (M : List KV) (q0 : Nat) (a : Option Addr) (n cap : Nat) (zs : List Int) (w : World) (hp : MdAt w p c) (hc : mayB c = true) (hm : MemAt w qm M) (hM : M.length ≤ 4) (hE : Even (fromM M c.layers.toNat) q0) (hq : q0 ≤ 900)
    (hx : Reads .i64 w a n cap zs) (hn : n ≤ 1000) :
    Calls Tryz.prog 153 #[.pointer p, .pointer qm, .slice a n cap] w fun e w' => ThrG w (thrX c (fromM M c.layers.toNat) zs c.layers.toNat) (thrM c (fromM M c.layers.toNat) zs c.layers.toNat) e w' := by
  obtain ⟨L, h1, h2, h3, h4, h5⟩ := cf_lay hc
  obtain ⟨s, v, d, l, tt, h⟩ := c
  simp only at h2 h3
  subst h2
  rw [h3] at hE ⊢
  exact through_nat p s v d tt h L qm M q0 a n cap zs w hp hc h5 hm hM hE hq hx hn h4
theorem through_mem (p : Option Addr) (c : Cf) (qm : Option Addr) (xs : List (List Int)) (k : Nat) (a : Option Addr) (n cap : Nat) (w : World) (hp : MdAt w p c) (hc : mayB c = true) (hm : MemAt w qm (memL c c.layers.toNat xs k)) (hk : k ≤ 900)
    (hx : Reads .i64 w a n cap (xs[k]?.getD [])) (hn : n ≤ 1000) :
    Calls Tryz.prog 153 #[.pointer p, .pointer qm, .slice a n cap] w fun e w' => ThrG w (madeL c c.layers.toNat xs k) (memL c c.layers.toNat xs (k + 1)) e w' := by
  have hp4 := may_parts hc
  have hF : fromM (memL c c.layers.toNat xs k) c.layers.toNat = memL c c.layers.toNat xs k := by unfold fromM; rw [if_pos (memL_len _ _ _ _)]
  have := through_any p c qm (memL c c.layers.toNat xs k) k a n cap (xs[k]?.getD []) w hp hc hm (by rw [memL_len]; omega) (by rw [hF]; exact memL_even _ _ _ _) hk hx hn
  rw [hF] at this
  exact this
theorem tabL_dim {c : Cf} {la wh : Int} (l0 : 0 ≤ la) (l1 : la < c.layers) (w0 : 0 ≤ wh) (w1 : wh ≤ 5) : (tabL c la wh).length = c.dim.toNat := by unfold tabL; rw [if_pos ⟨l0, l1, w0, w1⟩, tblK_len]
theorem outL_dim {c : Cf} {la : Int} (l0 : 0 ≤ la) (l1 : la < c.layers) {x : List Int} (hx : x.length = c.dim.toNat) (ks vs : List (List Int)) : (outL c la x ks vs).length = c.dim.toNat := by
  have hh : (hidL c la x ks vs).length = c.dim.toNat := by
    unfold hidL
    rw [addL_len, mulT_len, tabL_dim l0 l1 (by omega) (by omega)]
    omega
  unfold outL fwdL
  rw [addL_len, mulT_len, tabL_dim l0 l1 (by omega) (by omega)]
  omega
theorem thrX_dim {c : Cf} (M : List KV) {x : List Int} (hx : x.length = c.dim.toNat) (k : Nat) (hk : (k : Int) ≤ c.layers) : (thrX c M x k).length = c.dim.toNat := by
  induction k with
  | zero => exact hx
  | succ k ih => simp only [thrX]; exact outL_dim (by omega) (by omega) (ih (by omega)) _ _
end Go.Proofs.YtjgggialnegddaaGreat
namespace Go.Proofs.YtjgggialnegddaaGreat
open Go.RowKit
set_option linter.unusedVariables false
set_option maxRecDepth 1000000

theorem tokL_dim {c : Cf} {t : Int} (t0 : 0 ≤ t) (t1 : t < c.vocab) : (tokL c t).length = c.dim.toNat := by unfold tokL; rw [if_pos ⟨t0, t1⟩, rowK_len]
theorem madeL_dim {c : Cf} (hc : mayB c = true) (xs : List (List Int)) (k : Nat) (hx : (xs[k]?.getD []).length = c.dim.toNat) : (madeL c c.layers.toNat xs k).length = c.dim.toNat := by
  have := may_parts hc
  exact thrX_dim _ hx _ (by omega)
end Go.Proofs.YtjgggialnegddaaGreat
namespace Go.Proofs.YtjgggialnegddaaGreat
open Go.RowKit
set_option linter.unusedVariables false
set_option maxRecDepth 1000000

theorem ints_in {H : Type} {enc : TypeId × Value → H} {w : World} {held : Bool} {fuel : Nat} {a : Option Addr} {len cap : Nat} {x : DataW H × List MemPlace}
    (h : DataW.trod enc Tryz.prog w 0 (fun _ => true) held fuel 131 [.slice a len cap] = some x) : ∃ zs, Reads .i64 w a len cap zs := by
  rcases Go.ChangeShapes.open_ints Tryz.underlying131 Tryz.underlying2 (by kernel_rfl) h with ⟨hcs, _⟩ | ⟨ad, l, c, zs, hcs, _, hl, hm, hz, _, hx, hw⟩
  · simp at hcs
    obtain ⟨rfl, rfl, rfl⟩ := hcs
    exact ⟨[], Reads.nil _ _⟩
  · simp at hcs
    obtain ⟨rfl, rfl, rfl⟩ := hcs
    exact ⟨_, (Reads.row (zs := zs) (.inr ⟨ad, rfl, hl, hm, by simpa using hz, hx, hw⟩)).1⟩
section
open Go.ChangeShapes Go.WideShapes Go.ChangeAt
variable {H : Type} {enc : TypeId × Value → H} {W : World}
theorem ints_open {b0 : Nat} {v : Value} {d : DataW H} {ps : List MemPlace} (hv : Value.okWide Tryz.prog W .any b0 131 v) (h : DataW.Trod enc Tryz.prog W 0 (fun _ => true) true 131 v d ps) :
    ∃ a len cap zs, v = .slice a len cap ∧ Reads .i64 W a len cap zs := by
  obtain ⟨a, len, cap, rfl⟩ := okWide_slice Tryz.underlying131 hv
  obtain ⟨fuel, hf⟩ := h
  obtain ⟨zs, hz⟩ := ints_in hf
  exact ⟨a, len, cap, zs, rfl, hz⟩
end
end Go.Proofs.YtjgggialnegddaaGreat
namespace Go.Proofs.YtjgggialnegddaaGreat
open Go.RowKit
set_option linter.unusedVariables false
set_option maxRecDepth 1000000

/-- A table that came in. -/
def TblIn (w : World) (a : Option Addr) (len cap : Nat) (hs : List Hd) (xss : List (List Int)) : Prop :=
  Rd2 w a len cap hs ∧ xss.length = len ∧ ∀ i, i < len → Reads .i64 w (hs[i]?.getD (none, 0, 0)).1 (hs[i]?.getD (none, 0, 0)).2.1 (hs[i]?.getD (none, 0, 0)).2.2 (xss[i]?.getD [])
theorem tbl_in {H : Type} {enc : TypeId × Value → H} {w : World} {held : Bool} {fuel : Nat} {a : Option Addr} {len cap : Nat} {x : DataW H × List MemPlace}
    (h : DataW.trod enc Tryz.prog w 0 (fun _ => true) held fuel 132 [.slice a len cap] = some x) : ∃ hs xss, TblIn w a len cap hs xss := by
  rcases Go.Deep.open_int_rows Tryz.underlying132 Tryz.underlying131 Tryz.underlying2 (by kernel_rfl) (by kernel_rfl) h with ⟨hcs, _⟩ | ⟨ad, l, c, A, L, C, Z, hcs, _, hl, hm, _, hx⟩
  · simp at hcs
    obtain ⟨rfl, rfl, rfl⟩ := hcs
    exact ⟨[], [], ⟨rfl, Nat.le_refl _, by omega, fun _ => ⟨rfl, rfl⟩, fun i hi => by omega⟩, rfl, fun i hi => by omega⟩
  · simp at hcs
    obtain ⟨rfl, rfl, rfl⟩ := hcs
    have hrow : ∀ i, i < len → IsRow' .i64 w (A i) (L i) (C i) (Z i) := by
      intro i hi
      obtain ⟨hc, h1, h2, h3, h4, h5, h6⟩ := hx i (by omega)
      cases hA : A i with
      | none =>
        have hC := h5 hA
        exact .inl ⟨rfl, by omega, hC, List.eq_nil_of_length_eq_zero (by omega)⟩
      | some a' => exact .inr ⟨a', rfl, h1, h2, h3, fun c hc' => (h6 a' hA).2 c (by omega), h4⟩
    refine ⟨(List.range len).map fun r => (A r, L r, C r), (List.range len).map fun r => (Z r).take (L r), ⟨by simp, hl, by unfold maxLen at hm; omega, (fun e => by cases e), fun i hi => ?_⟩, by simp, fun i hi => ?_⟩
    · obtain ⟨hc, _⟩ := hx i (by omega)
      obtain ⟨b, off, spot⟩ := ad
      have hspot : spot = none := by simpa [Addr.add] using World.cell?_spot (hx 0 (by omega)).1
      subst hspot
      rw [Go.WideShapes.add_plain] at hc
      refine ⟨b, off, rfl, ?_⟩
      rw [hc]
      simp [hi]
    · have := (Reads.row (hrow i hi)).1
      simpa [hi] using this
section
open Go.ChangeShapes Go.WideShapes Go.ChangeAt
variable {H : Type} {enc : TypeId × Value → H} {W : World}
theorem rows_open {b0 : Nat} {v : Value} {d : DataW H} {ps : List MemPlace} (hv : Value.okWide Tryz.prog W .any b0 132 v) (h : DataW.Trod enc Tryz.prog W 0 (fun _ => true) true 132 v d ps) :
    ∃ a len cap hs xss, v = .slice a len cap ∧ TblIn W a len cap hs xss := by
  obtain ⟨a, len, cap, rfl⟩ := okWide_slice Tryz.underlying132 hv
  obtain ⟨fuel, hf⟩ := h
  obtain ⟨hs, xss, hz⟩ := tbl_in hf
  exact ⟨a, len, cap, hs, xss, rfl, hz⟩
end
theorem rd2_oneT (T : TypeId) (w : World) (a : Option Addr) (la ca : Nat) {B : Nat} (hB : w.heap.size = B) : Rd2 (w.alloc (.cells #[.slice a la ca] T)) (some ⟨B, 0, none⟩) 1 1 [(a, la, ca)] := by
  subst hB
  refine ⟨rfl, Nat.le_refl _, by omega, (fun e => by cases e), fun i hi => ⟨w.heap.size, 0, rfl, ?_⟩⟩
  rw [Nat.zero_add, cell_of_row _ w.heap.size i _ _ _ (heap_alloc_new w _)]
  obtain rfl : i = 0 := by omega
  rfl
theorem rd2_twoT (T : TypeId) (w : World) (a b : Option Addr) (la ca lb cb : Nat) {B : Nat} (hB : w.heap.size = B) : Rd2 (w.alloc (.cells #[.slice a la ca, .slice b lb cb] T)) (some ⟨B, 0, none⟩) 2 2 [(a, la, ca), (b, lb, cb)] := by
  subst hB
  refine ⟨rfl, Nat.le_refl _, by omega, (fun e => by cases e), fun i hi => ⟨w.heap.size, 0, rfl, ?_⟩⟩
  rw [Nat.zero_add, cell_of_row _ w.heap.size i _ _ _ (heap_alloc_new w _)]
  rcases (by omega : i = 0 ∨ i = 1) with rfl | rfl <;> rfl
theorem Rd2.nil (w : World) : Rd2 w none 0 0 [] := ⟨rfl, Nat.le_refl _, by omega, fun _ => ⟨rfl, rfl⟩, fun i hi => by omega⟩
theorem TblIn.tbl {w : World} {a : Option Addr} {len cap : Nat} {hs : List Hd} {xss : List (List Int)} (h : TblIn w a len cap hs xss) (hs40 : ∀ j, j < len → (hs[j]?.getD (none, 0, 0)).2.1 ≤ 40) : Tbl w a len cap hs xss :=
  ⟨h.1, h.2.2, fun i hi => Nat.le_trans (hs40 i hi) (by omega)⟩
end Go.Proofs.YtjgggialnegddaaGreat
namespace Go.Proofs.YtjgggialnegddaaGreat
open Go.RowKit
set_option linter.unusedVariables false
set_option maxRecDepth 1000000

/-- An append of one slice to a row of slices of the call's own. -/
theorem append_rowO {P : Program} (w : World) {ops : Array Oper} {rest : List Oper} {o : Oper} {a : Act} {Q : Exit → Act → World → Prop} (hgd : o.guard = none) (s x : Operand) (t : TypeId)
    (ho : o.op = .call { callee := .builtin .append, args := #[s, x], argTypes := #[t, t] })
    (base : Nat) (i : TypeInfo) (ht : P.underlying t = some (.slice 131)) (hi : P.info? 131 = some i) (hz : i.zero = some (.slice none 0 0)) (hsize : i.size = 1) (hby : i.bytes = 24)
    (v : Value) (n : Nat) (hs : List Hd) (ls : List (List Int)) (hv : a.eval s = v) (hown : RowsI w base v n hs ls) (hn : n ≤ 100000)
    (B : Nat) (y : Hd) (zs : List Int) (hx : a.eval x = .slice (some ⟨B, 0, none⟩) 1 1) (hc : w.cell? ⟨B, 0, none⟩ = some (.slice y.1 y.2.1 y.2.2)) (hr : Reads .i64 w y.1 y.2.1 y.2.2 zs) (h5 : BlI w y.1) (hy : y.2.1 ≤ 1000)
    (hbase : base ≤ w.heap.size)
    (h : ∀ v' w', RowsI w' base v' (n + 1) (hs ++ [y]) (ls ++ [zs]) → w.grownBy w' v.ownBlock → wpList P ops Q rest (a.put o.dst v') w') : wpList P ops Q (o :: rest) a w := by
  have hlen : hs.length = n := by have := hown.own.1; simpa using this
  refine wpList_append_own w hgd s x t ho base 131 i (.slice none 0 0) 1 24 ht hi hz hsize hby rfl (by decide) v n _ hv hown.own ⟨B, 0, none⟩ 1 1 [hdV y] hx rfl ?_ ?_ (by unfold maxLen; omega) (by omega) hbase ?_
  · intro j u hu
    rcases j with _ | j
    · simp at hu
      rw [Addr.add_lit, Nat.zero_add, hc, ← hu]
      rfl
    · simp at hu
  · intro u hu
    simp at hu
    subst hu
    rfl
  · intro v' w' h1 h2 _
    refine h v' w' ⟨by rw [List.map_append]; exact h1, by simp [hown.size], fun j hj => ?_⟩ h2
    have hsz := hown.size
    rcases Nat.lt_or_ge j n with hj' | hj'
    · obtain ⟨e2, e3, e4⟩ := hown.rows j hj'
      obtain ⟨k1, k2⟩ := Reads.kept hown.own h2 e2 e3
      rw [List.getElem?_append_left (by omega), List.getElem?_append_left (by omega)]
      exact ⟨k1, k2, e4⟩
    · obtain rfl : j = n := by omega
      obtain ⟨k1, k2⟩ := Reads.kept hown.own h2 hr h5
      rw [List.getElem?_append_right (by omega), List.getElem?_append_right (by omega)]
      simp only [hlen, hsz, Nat.sub_self, List.getElem?_cons_zero, Option.getD_some]
      exact ⟨k1, k2, hy⟩
/-- The row's own block is one of slices. -/
theorem own_type {w : World} {base e n : Nat} {v : Value} {vals : List Value} (ho : w.ownsRow base e 1 v n vals) {o : Nat} (h : v.ownBlock = some o) : ∃ cur, w.heap[o]? = some (.cells cur e (0, 0)) := by
  rcases ho.2 with ⟨rfl, _⟩ | ⟨g, cap, cur, rfl, _, hg, _⟩
  · simp [Value.ownBlock] at h
  · simp [Value.ownBlock] at h
    subst h
    exact ⟨cur, hg⟩
theorem TbH.grown {W W' : World} {base n : Nat} {v : Value} {vals : List Value} {h : Hd} {ls : List (List Int)} (k : TbH W h ls) (ho : W.ownsRow base 131 1 v n vals) (hg : W.grownBy W' v.ownBlock) (hf : ∀ o, v.ownBlock = some o → ∀ ad, h.1 = some ad → ad.block ≠ o) : TbH W' h ls := by
  obtain ⟨h1, hs, h2, h3, h4⟩ := k
  have key : ∀ p, h.1 = some p → W'.heap[p.block]? = W.heap[p.block]? := by
    intro p hp
    obtain ⟨cur, fz, hc⟩ := h3 p hp
    exact hg.block p.block (lt_of_block hc) (fun e => hf p.block e.symm p hp rfl)
  refine ⟨h1, hs, ⟨⟨h2.rd.size, h2.rd.room, h2.rd.most, h2.rd.bare, fun i hi => ?_⟩, fun i hi => (Reads.kept ho hg (h2.rows i hi) (h4 i hi)).1, h2.short⟩, fun p hp => ?_, fun i hi => (Reads.kept ho hg (h2.rows i hi) (h4 i hi)).2⟩
  · obtain ⟨b, off, ha, hc⟩ := h2.rd.cell i hi
    exact ⟨b, off, ha, (World.cell?_of_block (a := ⟨b, off + i, none⟩) (key ⟨b, off, none⟩ ha)).trans hc⟩
  · obtain ⟨cur, fz, hc⟩ := h3 p hp
    exact ⟨cur, fz, (key p hp).trans hc⟩
theorem MemB.grown {W W' : World} {B g : Nat} {M : List KV} {ps : List Hp} {base n : Nat} {v : Value} {vals : List Value} (h : MemB W B g M ps) (ho : W.ownsRow base 131 1 v n vals) (hg : W.grownBy W' v.ownBlock)
    (hf : ∀ i, i < M.length → ∀ o, v.ownBlock = some o → (∀ ad, (pk ps i).1.1 = some ad → ad.block ≠ o) ∧ ∀ ad, (pk ps i).2.1 = some ad → ad.block ≠ o) : MemB W' B g M ps := by
  have hB : W'.heap[B]? = W.heap[B]? := by
    refine hg.block B (lt_of_block h.var) (fun e => ?_)
    obtain ⟨cur, hc⟩ := own_type ho e.symm
    rw [h.var] at hc
    simp at hc
  have hG : W'.heap[g]? = W.heap[g]? := by
    obtain ⟨cur', hc'⟩ := h.own.blk
    refine hg.block g (lt_of_block hc') (fun e => ?_)
    obtain ⟨cur, hc⟩ := own_type ho e.symm
    rw [hc'] at hc
    simp at hc
  exact ⟨hB.trans h.var, own_same h.own hG, fun i hi => ⟨(h.rows i hi).1.grown ho hg (fun o e => (hf i hi o e).1), (h.rows i hi).2.grown ho hg (fun o e => (hf i hi o e).2)⟩⟩
/-- What stands between the first rounds of AttnCuts. -/
def CutAt (wS : World) (c : Cf) (L : Nat) (xss : List (List Int)) (k : Nat) (u v : Value) (W : World) : Prop :=
  ∃ (B : Nat) (hs : List Hd), u = .pointer (some ⟨B, 0, none⟩) ∧ MemAt W (some ⟨B, 0, none⟩) (memL c L xss k) ∧ RowsI W wS.heap.size v k hs (tblK (madeL c L xss) k) ∧ Below wS.heap.size wS W
theorem CutAt.step {wS wr w1 w3 : World} {c : Cf} {L : Nat} {xss : List (List Int)} {k : Nat} {v v' : Value} {hs hs' : List Hd} {B g : Nat} {ps : List Hp} {o : Obj}
    (hO : RowsI wr wS.heap.size v k hs (tblK (madeL c L xss) k)) (hW : Below wS.heap.size wS wr) (hM : MemB w1 B g (memL c L xss (k + 1)) ps) (hF : ∀ i, i < (memL c L xss (k + 1)).length → Fr2 wr (pk ps i)) (hb : Below wr.heap.size wr w1)
    (hg : (w1.alloc o).grownBy w3 v.ownBlock) (hO3 : RowsI w3 wS.heap.size v' (k + 1) hs' (tblK (madeL c L xss) k ++ [madeL c L xss k])) : CutAt wS c L xss (k + 1) (.pointer (some ⟨B, 0, none⟩)) v' w3 := by
  have ha : Below w1.heap.size w1 (w1.alloc o) := (Below.refl _ _).alloc (Nat.le_refl _) _
  have hO2 := (hO.below hb).below ha
  refine ⟨B, hs', rfl, .inr ⟨B, g, ps, rfl, (hM.below ha).grown hO2.own hg ?_⟩, by rw [← tblK_snoc]; exact hO3, ?_⟩
  · intro i hi o e
    have h1 := (hO.own.lt o e).2
    refine ⟨fun ad had => ?_, fun ad had => ?_⟩
    · have := (hF i hi).1 ad had; omega
    · have := (hF i hi).2 ad had; omega
  · have h1 : Below wS.heap.size wS w1 := hW.trans (hb.mono hW.size)
    have h2 : Below wS.heap.size wS (w1.alloc o) := h1.trans (ha.mono h1.size)
    exact h2.grown hg h2.size fun g hg => (hO2.own.lt g hg).1
end Go.Proofs.YtjgggialnegddaaGreat
namespace Go.Proofs.YtjgggialnegddaaGreat
open Go.RowKit
set_option linter.unusedVariables false
set_option maxRecDepth 1000000

theorem dotK_turn (xs ys : List Int) (k : Nat) : dotK ys xs k = dotK xs ys k := by
  induction k with
  | zero => rfl
  | succ k ih => simp only [dotK]; rw [ih, mulZ_comm]
/-- The call hands back a slice that reads as this list. -/
def GR (w : World) (L : List Int) (e : Ending) (w' : World) : Prop := ∃ (a : Option Addr) (n cap : Nat), e = .returned (.slice a n cap) ∧ Reads .i64 w' a n cap L ∧ Below w.heap.size w w'
theorem Gives.gr {w w' : World} {n : Nat} {L : List Int} {e : Ending} (h : Gives w n L e w') : GR w L e w' := by
  obtain ⟨a, cap, rfl, h1, h2⟩ := h
  exact ⟨a, n, cap, rfl, h1, h2⟩
/-- The like, in a block of numbers. -/
def GRI (w : World) (L : List Int) (e : Ending) (w' : World) : Prop := ∃ (a : Option Addr) (n cap : Nat), e = .returned (.slice a n cap) ∧ Reads .i64 w' a n cap L ∧ BlI w' a ∧ Below w.heap.size w w'
theorem OwnG.gri {w w' : World} {n : Nat} {L : List Int} {e : Ending} (h : OwnG w n L e w') : GRI w L e w' := by
  obtain ⟨v, rfl, h1, h2⟩ := h
  obtain ⟨a, cap, rfl, hr⟩ := Reads.own (k := .i64) h1
  exact ⟨a, n, cap, rfl, hr, BlI.own h1, h2⟩
theorem rnorm_h (a : Option Addr) (n cap : Nat) (zs : List Int) (w : World) (ha : Reads .i64 w a n cap zs) (hn : n ≤ 1000) :
    Calls Tryz.prog 130 #[.slice a n cap] w fun e w' => GR w (normL zs) e w' := (rvnorm_any a n cap zs w ha hn).mono fun e w' h => h.gr
theorem rsoft_h (a : Option Addr) (n cap : Nat) (zs : List Int) (w : World) (ha : Reads .i64 w a n cap zs) (hn : n ≤ 1000) :
    Calls Tryz.prog 138 #[.slice a n cap] w fun e w' => GR w (softL zs) e w' := (rvsoft_any a n cap zs w ha hn).mono fun e w' h => h.gr
theorem rrelu_h (a : Option Addr) (n cap : Nat) (zs : List Int) (w : World) (ha : Reads .i64 w a n cap zs) (hn : n ≤ 1000) :
    Calls Tryz.prog 139 #[.slice a n cap] w fun e w' => GR w (reluL zs) e w' := (rvrelu_any a n cap zs w ha hn).mono fun e w' h => h.gr
theorem radd_h (a b : Option Addr) (la ca lb cb : Nat) (xs ys : List Int) (w : World) (ha : Reads .i64 w a la ca xs) (hb : Reads .i64 w b lb cb ys) (hla : la ≤ 1000) (hlb : lb ≤ 1000) :
    Calls Tryz.prog 71 #[.slice a la ca, .slice b lb cb] w fun e w' => GRI w (addL xs ys) e w' := by
  unfold addL
  rw [ha.size, hb.size]
  exact (rvadd_own a b la ca lb cb xs ys w ha hb hla hlb).mono fun e w' h => h.gri
theorem rmul_h (a b : Option Addr) (la ca lb cb : Nat) (hs : List Hd) (t : List (List Int)) (ys : List Int) (w : World) (ha : Tbl w a la ca hs t) (hl : t.length = la) (hb : Reads .i64 w b lb cb ys) (hla : la ≤ 1000) (hlb : lb ≤ 1000) :
    Calls Tryz.prog 131 #[.slice a la ca, .slice b lb cb] w fun e w' => GRI w (mulT t ys) e w' := by
  unfold mulT
  rw [hl]
  exact (rvmul_own a b la ca lb cb hs t ys w ha hb hla hlb).mono fun e w' h => h.gri
theorem rmix_h (a b : Option Addr) (la ca lb cb : Nat) (hs : List Hd) (t : List (List Int)) (ws : List Int) (w : World) (ha : Tbl w a la ca hs t) (hl : t.length = la) (hb : Reads .i64 w b lb cb ws) (hla : la ≤ 1000) (hlb : lb ≤ 1000) (h0 : 0 < la) :
    Calls Tryz.prog 137 #[.slice b lb cb, .slice a la ca] w fun e w' => GR w (mixL ws t) e w' := by
  unfold mixL
  rw [hl, hb.size]
  exact (rvmix_any a b la ca lb cb hs t ws w ha hb hla hlb h0).mono fun e w' h => h.gr
theorem rrows_h (c : Cf) (la wh : Int) (w : World) (hc : mayB c = true) :
    Calls Tryz.prog 132 #[.agg (CfV c), .int .i64 la, .int .i64 wh] w fun e w' => GT w (tabL c la wh) e w' := (rrows_g c la wh w hc).mono fun e w' ⟨a, cap, hs, h1, h2, h3⟩ => ⟨a, _, cap, hs, h1, h2, rfl, h3⟩
theorem rmark_h (c : Cf) (a b : Option Addr) (la ca lb cb : Nat) (q y : List Int) (w : World) (ha : Reads .i64 w a la ca q) (hb : Reads .i64 w b lb cb y) (hla : la ≤ 1000) (hlb : lb ≤ 1000) :
    Calls Tryz.prog 136 #[.slice a la ca, .slice b lb cb] w fun e w' => e = .returned (.int .i64 (dotK y q (min y.length q.length))) ∧ Below w.heap.size w w' := by
  have := rvdot_any a b la ca lb cb q y w ha hb hla hlb
  rw [ha.size, hb.size, dotK_turn, Nat.min_comm]
  exact this
/-- An append of one value to a row of the call's own. -/
theorem append_one {P : Program} (w : World) {ops : Array Oper} {rest : List Oper} {o : Oper} {a : Act} {Q : Exit → Act → World → Prop} (hgd : o.guard = none) (s x : Operand) (t : TypeId)
    (ho : o.op = .call { callee := .builtin .append, args := #[s, x], argTypes := #[t, t] })
    (base : Nat) (e : TypeId) (i : TypeInfo) (z : Value) (bytes : Nat) (ht : P.underlying t = some (.slice e)) (hi : P.info? e = some i) (hz : i.zero = some z) (hsize : i.size = 1) (hby : i.bytes = bytes) (hzs : z.cells.size = 1) (hbt : bytes ≤ 24)
    (v : Value) (n : Nat) (xs : List Value) (hv : a.eval s = v) (hown : w.ownsRow base e 1 v n xs) (hn : n ≤ 100000)
    (B : Nat) (u : Value) (h1 : u.oneCell' = true) (hx : a.eval x = .slice (some ⟨B, 0, none⟩) 1 1) (hc : w.cell? ⟨B, 0, none⟩ = some u)
    (hbase : base ≤ w.heap.size)
    (h : ∀ v' w', w'.ownsRow base e 1 v' (n + 1) (xs ++ [u]) → w.grownBy w' v.ownBlock → wpList P ops Q rest (a.put o.dst v') w') : wpList P ops Q (o :: rest) a w := by
  refine wpList_append_own w hgd s x t ho base e i z 1 bytes ht hi hz hsize hby hzs (by decide) v n _ hv hown ⟨B, 0, none⟩ 1 1 [u] hx rfl ?_ ?_ (by unfold maxLen; omega) (by have : (n + 1) * bytes ≤ (n + 1) * 24 := Nat.mul_le_mul_left _ hbt; omega) hbase ?_
  · intro j y hy
    rcases j with _ | j
    · simp at hy
      rw [Addr.add_lit, Nat.zero_add, hc, hy]
    · simp at hy
  · intro y hy
    simp at hy
    subst hy
    exact h1
  · intro v' w' h1 h2 _
    exact h v' w' h1 h2
/-- A row of another type stays while one grows. -/
theorem own_kept {w w' : World} {b1 b2 e1 e2 n1 n2 : Nat} {v1 v2 : Value} {x1 x2 : List Value} (h1 : w.ownsRow b1 e1 1 v1 n1 x1) (h2 : w.ownsRow b2 e2 1 v2 n2 x2) (hne : e1 ≠ e2) (hg : w.grownBy w' v2.ownBlock) : w'.ownsRow b1 e1 1 v1 n1 x1 := by
  refine h1.kept hg ?_
  cases ho : v1.ownBlock with
  | none => exact .inl rfl
  | some o =>
    refine .inr fun e => ?_
    obtain ⟨c1, hc1⟩ := own_type h1 ho
    obtain ⟨c2, hc2⟩ := own_type h2 e.symm
    rw [hc1] at hc2
    simp at hc2
    exact hne hc2.2
/-- No number lies in a block of other things. -/
theorem Reads.notin {W : World} {a : Option Addr} {n c : Nat} {xs : List Int} (h : Reads .i64 W a n c xs) {R : Nat} {cs : Array Value} {T : TypeId} (hR : W.heap[R]? = some (.cells cs T (0, 0))) (hcs : ∀ (j : Nat) (z : Int), cs[j]? ≠ some (Value.int .i64 z)) : Off [R] a n := by
  intro h0 ad hd hs
  rw [List.mem_singleton] at hs
  obtain ⟨b, off, e, hc⟩ := h.cell 0 h0
  rw [hd] at e
  cases e
  simp only at hs
  subst hs
  rw [cell_of_row _ _ _ _ _ _ hR] at hc
  exact hcs _ _ hc
end Go.Proofs.YtjgggialnegddaaGreat
namespace Go.Proofs.YtjgggialnegddaaGreat
open Go.RowKit
set_option linter.unusedVariables false
set_option maxRecDepth 1000000

/-- The row lies where it lay, or in a new block. -/
def Moved (w : World) (v v' : Value) : Prop := v'.ownBlock = v.ownBlock ∨ ∃ o, v'.ownBlock = some o ∧ w.heap.size ≤ o
theorem moved_of {w w' : World} {e n : Nat} {v v' : Value} {xs : List Value} (h : w'.ownsRow w.heap.size e 1 v' (n + 1) xs) : Moved w v v' := by
  right
  rcases id h.2 with ⟨_, h0⟩ | ⟨g, cap, cur, rfl, hb, _⟩
  · omega
  · exact ⟨g, rfl, hb⟩
/-- An append of one value to a row of the call's own, with where it then lies. -/
theorem append_one2 {P : Program} (w : World) {ops : Array Oper} {rest : List Oper} {o : Oper} {a : Act} {Q : Exit → Act → World → Prop} (hgd : o.guard = none) (s x : Operand) (t : TypeId)
    (ho : o.op = .call { callee := .builtin .append, args := #[s, x], argTypes := #[t, t] })
    (base : Nat) (e : TypeId) (i : TypeInfo) (z : Value) (bytes : Nat) (ht : P.underlying t = some (.slice e)) (hi : P.info? e = some i) (hz : i.zero = some z) (hsize : i.size = 1) (hby : i.bytes = bytes) (hzs : z.cells.size = 1) (hbt : bytes ≤ 24)
    (v : Value) (n : Nat) (xs : List Value) (hv : a.eval s = v) (hown : w.ownsRow base e 1 v n xs) (hn : n ≤ 100000)
    (B : Nat) (u : Value) (h1 : u.oneCell' = true) (hx : a.eval x = .slice (some ⟨B, 0, none⟩) 1 1) (hc : w.cell? ⟨B, 0, none⟩ = some u)
    (hbase : base ≤ w.heap.size)
    (h : ∀ v' w', w'.ownsRow base e 1 v' (n + 1) (xs ++ [u]) → w.grownBy w' v.ownBlock → Moved w v v' → wpList P ops Q rest (a.put o.dst v') w') : wpList P ops Q (o :: rest) a w := by
  have hnews : ∀ j y, [u][j]? = some y → w.cell? ((⟨B, 0, none⟩ : Addr).add j) = some y := by
    intro j y hy
    rcases j with _ | j
    · simp at hy
      rw [Addr.add_lit, Nat.zero_add, hc, hy]
    · simp at hy
  have hone : ∀ y ∈ [u], y.oneCell' = true := by
    intro y hy
    simp at hy
    subst hy
    exact h1
  have hbytes : (n + 1) * bytes ≤ 140737488355328 := by have : (n + 1) * bytes ≤ (n + 1) * 24 := Nat.mul_le_mul_left _ hbt; omega
  rcases id hown.2 with ⟨rfl, rfl⟩ | ⟨g, cap, cur, rfl, hbg, hg, hnc, hcm, hcs, htake⟩
  · obtain rfl : xs = [] := List.eq_nil_of_length_eq_zero (by simpa using hown.1)
    refine wpList_append_grows w hgd s x t ho e i z 1 bytes ht hi hz hsize hby hzs (by decide) none 0 0 [] hv (fun _ => ⟨rfl, rfl⟩) rfl (fun b hb => by cases hb) ⟨B, 0, none⟩ 1 1 [u] hx rfl hnews hone (by omega) (by unfold maxLen; omega) hbytes ?_
    intro v' w' k1 k2
    exact h v' w' (own_base k1 hbase) k2 (moved_of k1)
  · by_cases hroom : n + 1 ≤ cap
    · refine wpList_append_fits w hgd s x t ho base e i 1 ht hi hsize g n cap xs hv hown ⟨B, 0, none⟩ 1 1 [u] hx rfl hnews hone hroom ?_
      intro w' k1 k2
      exact h _ w' k1 k2 (.inl rfl)
    · refine wpList_append_grows w hgd s x t ho e i z 1 bytes ht hi hz hsize hby hzs (by decide) (some ⟨g, 0, none⟩) n cap xs hv (fun e => by cases e) (by simpa using hown.1) (fun b hb => by cases hb; exact hown.cells (g := g) rfl) ⟨B, 0, none⟩ 1 1 [u] hx rfl hnews hone (by omega) (by unfold maxLen; omega) hbytes ?_
      intro v' w' k1 k2
      exact h v' w' (own_base k1 hbase) ⟨k2.os, k2.tape, k2.output, k2.size, fun k hk _ => k2.block k hk (by simp)⟩ (moved_of k1)
/-- Two rows lie apart. -/
def Apart (u v : Value) : Prop := ∀ o, u.ownBlock = some o → v.ownBlock ≠ some o
theorem Apart.symm {u v : Value} (h : Apart u v) : Apart v u := fun o h1 h2 => h o h2 h1
theorem Apart.nil (v : Value) : Apart (.slice none 0 0) v := fun o h => by simp [Value.ownBlock] at h
theorem Apart.moved {w : World} {base e n : Nat} {u u' v : Value} {xs : List Value} (h : Apart u v) (hm : Moved w u u') (hv : w.ownsRow base e 1 v n xs) : Apart u' v := by
  intro o h1 h2
  rcases hm with hm | ⟨o', hm, hle⟩
  · rw [hm] at h1; exact h o h1 h2
  · rw [hm] at h1
    cases h1
    have := (hv.lt _ h2).2
    omega
theorem RowsI.kept2 {w w' : World} {b1 b2 n1 n2 : Nat} {u v : Value} {xs : List Value} {hs : List Hd} {ls : List (List Int)} (hu : w.ownsRow b1 131 1 u n1 xs) (hv : RowsI w b2 v n2 hs ls) (hap : Apart u v) (hg : w.grownBy w' u.ownBlock) : RowsI w' b2 v n2 hs ls := by
  refine ⟨hv.own.kept hg ?_, hv.size, fun j hj => ?_⟩
  · cases ho : v.ownBlock with
    | none => exact .inl rfl
    | some o => exact .inr fun e => hap o e.symm ho
  · obtain ⟨e2, e3, e4⟩ := hv.rows j hj
    obtain ⟨k1, k2⟩ := Reads.kept hu hg e2 e3
    exact ⟨k1, k2, e4⟩
theorem RowsI.snoc {w w' : World} {base n : Nat} {v v' : Value} {hs : List Hd} {ls : List (List Int)} {y : Hd} {zs : List Int} (hown : RowsI w base v n hs ls) (hr : Reads .i64 w y.1 y.2.1 y.2.2 zs) (h5 : BlI w y.1) (hy : y.2.1 ≤ 1000)
    (ho : w'.ownsRow base 131 1 v' (n + 1) (hs.map hdV ++ [hdV y])) (hg : w.grownBy w' v.ownBlock) : RowsI w' base v' (n + 1) (hs ++ [y]) (ls ++ [zs]) := by
  have hlen : hs.length = n := by have := hown.own.1; simpa using this
  refine ⟨by rw [List.map_append]; exact ho, by simp [hown.size], fun j hj => ?_⟩
  have hsz := hown.size
  rw [at_snoc hs y _ hlen hj, at_snoc ls zs _ hsz hj]
  by_cases e : j < n
  · rw [if_pos e, if_pos e]
    obtain ⟨e2, e3, e4⟩ := hown.rows j e
    obtain ⟨k1, k2⟩ := Reads.kept hown.own hg e2 e3
    exact ⟨k1, k2, e4⟩
  · rw [if_neg e, if_neg e]
    obtain ⟨k1, k2⟩ := Reads.kept hown.own hg hr h5
    exact ⟨k1, k2, hy⟩
theorem own_keep {T : TypeId} {W W' : World} {base e n : Nat} {v : Value} {xs : List Value} (h : W.ownsRow base e 1 v n xs) (hk : Kp T W W') (hT : e ≠ T) : W'.ownsRow base e 1 v n xs := by
  refine ⟨h.1, ?_⟩
  rcases h.2 with h' | ⟨g, c, cur, hv, hB, hg, rest⟩
  · exact .inl h'
  · exact .inr ⟨g, c, cur, hv, hB, hk _ _ _ _ hg hT, rest⟩
theorem RowsI.keep {T : TypeId} {W W' : World} {base n : Nat} {v : Value} {hs : List Hd} {ls : List (List Int)} (h : RowsI W base v n hs ls) (hk : Kp T W W') (hT : 2 ≠ T) (hS : 131 ≠ T) : RowsI W' base v n hs ls :=
  ⟨own_keep h.own hk hS, h.size, fun j hj => by
    obtain ⟨e2, e3, e4⟩ := h.rows j hj
    obtain ⟨k1, k2⟩ := Reads.keep e2 e3 hk hT
    exact ⟨k1, k2, e4⟩⟩
/-- Such a row, as a slice. -/
theorem RowsI.tbh {w : World} {base n : Nat} {v : Value} {hs : List Hd} {ls : List (List Int)} (h : RowsI w base v n hs ls) : ∃ a c, v = .slice a n c ∧ TbH w (a, n, c) ls := by
  obtain ⟨a, c, rfl, ht⟩ := h.tbl
  exact ⟨a, c, rfl, h.size, hs, ht, BlS.own h.own, fun i hi => (h.rows i hi).2.1⟩
/-- A list of places as it is read: each has a table of keys and one of values, a row a layer. -/
structure PlsAt (W : World) (a : Option Addr) (n cap : Nat) (ps : List Hp) (KK VV : Nat → List (List Int)) : Prop where
  room : n ≤ cap
  most : cap ≤ 9223372036854775807
  cell : ∀ i, i < n → ∃ b off, a = some ⟨b, off, none⟩ ∧ W.cell? ⟨b, off + i * 2, none⟩ = some (hdV (pk ps i).1) ∧ W.cell? ⟨b, off + i * 2 + 1, none⟩ = some (hdV (pk ps i).2)
  rows : ∀ i, i < n → TbH W (pk ps i).1 (KK i) ∧ TbH W (pk ps i).2 (VV i)
theorem PlsAt.below {W W' : World} {a : Option Addr} {n cap : Nat} {ps : List Hp} {KK VV : Nat → List (List Int)} (h : PlsAt W a n cap ps KK VV) (hb : Below W.heap.size W W') : PlsAt W' a n cap ps KK VV :=
  ⟨h.room, h.most, fun i hi => by
    obtain ⟨b, off, e, c0, c1⟩ := h.cell i hi
    exact ⟨b, off, e, cell_later_of c0 hb, cell_later_of c1 hb⟩, fun i hi => ⟨(h.rows i hi).1.below hb, (h.rows i hi).2.below hb⟩⟩
end Go.Proofs.YtjgggialnegddaaGreat
