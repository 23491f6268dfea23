/-
  The texts Mixes of this proof.
-/
import Derived.Test.YtjgggialnegddaaGreatPr10
set_option linter.unusedVariables false
set_option maxRecDepth 1000000
namespace Go.Proofs.YtjgggialnegddaaGreat
open Go.RowKit
def mixK (ws : List Int) (xss : List (List Int)) : Nat → List Int
 | 0 => List.replicate (xss[0]?.getD []).length 0
 | k + 1 => pairK (fun x y => addZ x (mulZ y (ws[k]?.getD 0))) (mixK ws xss k) (xss[k]?.getD []) (min (mixK ws xss k).length (xss[k]?.getD []).length)
theorem mixK_len {ws : List Int} {xss : List (List Int)} (h : (xss[0]?.getD []).length ≤ 1000) (k : Nat) : (mixK ws xss k).length ≤ 1000 := by
 induction k with
 | zero => simpa [mixK] using h
 | succ k ih => simp only [mixK]; rw [pairK_len]; omega
theorem mix11_any (x y b : Int) (B : Nat) (w : World) (hB : w.heap[B]? = some (.cells #[.int .i64 b] 2 (0, 0))) :
  Calls Tryz.prog 239 #[.int .i64 x, .int .i64 y, .pointer (some ⟨B, 0, none⟩)] w fun e w' => e = .returned (.int .i64 (addZ x (mulZ y b))) ∧ w' = w := by
 have cs := cell_of_one hB
 clear hB
 go_enter Tryz.func239, Tryz.ntmps239
 go_wp2_with fail
 refine (mul_any _ _ _).mono ?_
 rintro e w' ⟨rfl, rfl⟩
 go_wp2_with fail
 refine (add_any _ _ _).mono ?_
 rintro e w' ⟨rfl, rfl⟩
 go_wp2
 go_ret
 exact ⟨rfl, rfl⟩
structure MixAt (w : World) (a : Option Addr) (len cap : Nat) (us : List Int) (W : World) : Prop where
 old : Below w.heap.size w W
 rows : W.heap[w.heap.size]? = some (.cells #[.slice a len cap] 132 (0, 0))
 var : ∃ g c, W.heap[w.heap.size + 2]? = some (.cells #[.slice (some ⟨g, 0, none⟩) us.length c] 131 (0, 0)) ∧ OwnK 2 w.heap.size g us.length c us W
theorem mix1_end {w wd w2 : World} {a : Option Addr} {len cap n g2 c2 : Nat} {vs : List Int} {v0 : Value} (hold : Below w.heap.size w wd) (hV : wd.heap[w.heap.size + 2]? = some (.cells #[v0] 131 (0, 0))) (hR : wd.heap[w.heap.size]? = some (.cells #[.slice a len cap] 132 (0, 0)))
  (hO2 : OwnK 2 wd.heap.size g2 n c2 vs w2) (hb2 : Below wd.heap.size wd w2) : MixAt w a len cap vs (w2.setCell ⟨w.heap.size + 2, 0, none⟩ (.slice (some ⟨g2, 0, none⟩) n c2)) := by
 have hl := hO2.len
 have hlt := lt_of_block hV
 have hgb := hO2.base
 have hV2 := (hb2.block _ hlt).trans hV
 subst hl
 refine ⟨(hold.trans (hb2.mono hold.size)).setCell (by show w.heap.size ≤ w.heap.size + 2; omega) _, ?_, g2, c2, one_setCell hV2, ?_⟩
 ·rw [Below.heap_setCell _ _ _ _ (by show w.heap.size ≠ w.heap.size + 2; omega)]
  exact (hb2.block _ (lt_of_block hR)).trans hR
 ·exact (hO2.low hold.size).same (Below.heap_setCell _ _ _ _ (by show g2 ≠ w.heap.size + 2; omega))
set_option maxHeartbeats 1000000 in
theorem mix1_any (w : World) (a : Option Addr) (len cap k : Nat) (hs : List Hd) (xss : List (List Int)) (us : List Int) (b : Int) (wr : World) (ht : Tbl w a len cap hs xss) (hk : k < len) (hu : us.length ≤ 1000) (h : MixAt w a len cap us wr) :
  Calls Tryz.prog 238 #[.int .i64 k, .int .i64 b, .pointer (some ⟨w.heap.size + 2, 0, none⟩), .pointer (some ⟨w.heap.size, 0, none⟩)] wr
   fun e w' => e = .returned (.tuple #[]) ∧ MixAt w a len cap (pairK (fun x y => addZ x (mulZ y b)) us (xss[k]?.getD []) (min us.length (xss[k]?.getD []).length)) w' := by
 obtain ⟨g, c, hv, hO⟩ := h.var
 obtain ⟨wb, hwb⟩ : ∃ wb, wb = wr.alloc (.cells #[.int .i64 b] 2) := ⟨_, rfl⟩
 have hb0 : Below wr.heap.size wr wb := by rw [hwb]; exact (Below.refl _ _).alloc (Nat.le_refl _) _
 have hnew : wb.heap[wr.heap.size]? = some (.cells #[.int .i64 b] 2 (0, 0)) := by rw [hwb]; exact heap_alloc_new wr _
 have hbd : Below w.heap.size w wb.drew := (h.old.trans (hb0.mono h.old.size)).drew
 have hrow := (ht.below hbd).rows k hk
 have hOb : OwnK 2 w.heap.size g us.length c us wb.drew := hO.stays hb0.drew
 have hC := madeofboth_any 239 #[.pointer (some ⟨wr.heap.size, 0, none⟩)] (enters_of Tryz.func239 (by kernel_rfl) rfl) (some ⟨g, 0, none⟩) (hs[k]?.getD (none, 0, 0)).1 us.length c (hs[k]?.getD (none, 0, 0)).2.1 (hs[k]?.getD (none, 0, 0)).2.2 us (xss[k]?.getD []) wb.drew hOb.reads hrow hu (ht.short k hk) (fun x y => addZ x (mulZ y b))
  fun x y W hW => (mix11_any x y b wr.heap.size W ((hW.block _ (by have := lt_of_block hnew; exact this)).trans hnew)).mono fun e w' ⟨h1, h2⟩ => ⟨h1, by rw [h2]; exact Below.refl _ _⟩
 have HSZ := hid hrow.size
 have cv := cell_of_one (((hb0.drew).block _ (lt_of_block hv)).trans hv)
 have cr := cell_of_one (((hb0.drew).block _ (lt_of_block h.rows)).trans h.rows)
 obtain ⟨b2, o2, ea, ce⟩ := (ht.below hbd).rd.cell k hk
 have hroom := ht.rd.room
 have hmost := ht.rd.most
 have HV : Hid (wb.drew.heap[w.heap.size + 2]? = some (.cells #[.slice (some ⟨g, 0, none⟩) us.length c] 131 (0, 0))) := ((hb0.drew).block _ (lt_of_block hv)).trans hv
 have HR : Hid (wb.drew.heap[w.heap.size]? = some (.cells #[.slice a len cap] 132 (0, 0))) := ((hb0.drew).block _ (lt_of_block h.rows)).trans h.rows
 have HO := hid hbd
 have hq : (k : Int) < (len : Int) := by omega
 clear hb0 hnew hbd hrow hOb hv hO h ht
 subst hwb
 subst ea
 generalize hs[k]?.getD (none, 0, 0) = z at *
 obtain ⟨z1, z2, z3⟩ := z
 simp only at ce hC HSZ
 go_enter Tryz.func238, Tryz.ntmps238
 go_wp2_with fail
 go_region_with (go_at_call 177; refine hC.mono ?_; rintro e w2 ⟨g2, c2, rfl, hO2, hb2⟩; have hv2 := (hb2.block _ (lt_of_block HV.out)).trans HV.out; have cv2 := cell_of_one hv2; have fv2 := free_of_one hv2)
 all_goals
  have HE := hid (mix1_end HO.out HV.out HR.out hO2 hb2)
  clear hO2 hb2 hv2 cv2 fv2 hC cv cr ce
  go_wp2
  go_end0
  refine ⟨rfl, ?_⟩
  rw [HSZ.out]
  exact HE.out
theorem MixAt.new (w : World) (a : Option Addr) (len cap n : Nat) (hn : n ≤ 1000) :
  MixAt w a len cap (List.replicate n 0) (((w.alloc (.cells #[.slice a len cap] 132)).alloc (.cells (madeCells #[.int .i64 0] n) 2)).alloc (.cells #[.slice (some ⟨w.heap.size + 1, 0, none⟩) n n] 131)) := by
 have h1 := own_made 2 (w.alloc (.cells #[.slice a len cap] 132)) n (by omega)
 have e1 : (w.alloc (.cells #[.slice a len cap] 132)).heap.size = w.heap.size + 1 := by simp
 rw [e1] at h1
 refine ⟨?_, ?_, w.heap.size + 1, n, ?_, ?_⟩
 ·exact (((Below.refl _ _).alloc (Nat.le_refl _) _).alloc (by simp) _).alloc (by simp; omega) _
 ·rw [Below.heap_alloc _ _ _ (by simp; omega), Below.heap_alloc _ _ _ (by simp)]
  exact heap_alloc_new w _
 ·have := heap_alloc_new ((w.alloc (.cells #[.slice a len cap] 132)).alloc (.cells (madeCells #[.int .i64 0] n) 2)) (.cells #[.slice (some ⟨w.heap.size + 1, 0, none⟩) n n] 131)
  rw [World.size_alloc, World.size_alloc] at this
  rw [List.length_replicate]
  exact this
 ·rw [List.length_replicate]
  exact (h1.low (by omega)).stays ((Below.refl _ _).alloc (Nat.le_refl _) _)
theorem vmix_made (a b : Option Addr) (la ca lb cb : Nat) (hs : List Hd) (xss : List (List Int)) (ws : List Int) (w : World) (ha : Tbl w a la ca hs xss) (hb : Reads .i64 w b lb cb ws) (hla : la ≤ 1000) (hlb : lb ≤ 1000) (h0 : 0 < la) :
  Calls Tryz.prog 212 #[.slice b lb cb, .slice a la ca] w fun e w' => Made w (mixK ws xss (min lb la)).length (mixK ws xss (min lb la)) e w' := by
 obtain ⟨b0, o0, rfl, c0⟩ := ha.rd.cell 0 h0
 have hr0 := ha.rows 0 h0
 have hs0 := ha.short 0 h0
 have HZ := hid hr0.size
 have HL : Hid ((xss[0]?.getD []).length ≤ 1000) := by unfold Hid; rw [hr0.size]; exact hs0
 have HE : Hid (∀ n W, (xss[0]?.getD []).length = n → MixAt w (some ⟨b0, o0, none⟩) la ca (List.replicate n 0) W → Calls Tryz.prog 215 #[.slice b (min lb la) cb, .func (.func 238) #[] #[.pointer (some ⟨w.heap.size + 2, 0, none⟩), .pointer (some ⟨w.heap.size, 0, none⟩)]] W
   fun e w' => e = .returned (.tuple #[]) ∧ MixAt w (some ⟨b0, o0, none⟩) la ca (mixK ws xss (min lb la)) w') := by
  intro n W hn hW
  subst hn
  refine each_any 238 _ b (min lb la) cb (ws.take (min lb la)) W (by omega) (fun k W => MixAt w (some ⟨b0, o0, none⟩) la ca (mixK ws xss k) W) (enters_of Tryz.func238 (by kernel_rfl) rfl) (fun k wr h => (hb.below h.old).cut (Nat.min_le_left _ _)) hW ?_
  intro k wr hk hI
  rw [List.getElem?_take_of_lt hk]
  exact mix1_any w _ la ca k hs xss (mixK ws xss k) (ws[k]?.getD 0) wr ha (by omega) (mixK_len HL.out k) hI
 have r1 := hb.room
 have m1 := hb.most
 have bare := hb.bare
 have r2 := ha.rd.room
 have m2 := ha.rd.most
 have q0 : (0 : Int) < (la : Int) := by omega
 have qn : ((la : Int) == 0) = false := by simp; omega
 rw [Nat.add_zero] at c0
 have c1 := cell_al c0 (.cells #[.slice (some ⟨b0, o0, none⟩) la ca] 132)
 clear ha hb hr0
 generalize hs[0]?.getD (none, 0, 0) = z at *
 obtain ⟨z1, z2, z3⟩ := z
 simp only at c0 c1 hs0 HZ
 have hmk : ∀ W : World, (Instr.makeSlice 131 (.int .i64 (z2 : Int)) (.int .i64 (z2 : Int))).run Tryz.prog W = .ok (.slice (some ⟨W.heap.size, 0, none⟩) z2 z2) (W.alloc (.cells (madeCells #[.int .i64 0] z2) 2)) := fun W => make_ints W z2 (by omega)
 have HF := hid fun W => HE.out z2 W HZ.out
 clear HE HL HZ
 obtain ⟨m, hm⟩ : ∃ m, min lb la = m := ⟨_, rfl⟩
 rw [hm] at HF ⊢
 generalize mixK ws xss m = us at *
 rcases Nat.lt_or_ge la lb with hl | hl
 ·obtain rfl : la = m := by omega
  clear hm
  cases b with
  | none => obtain ⟨rfl, rfl⟩ := bare rfl; omega
  | some ad =>
   clear bare
   go_enter Tryz.func212, Tryz.ntmps212
   go_wp2_with fail
   refine (count_any _ _ _ _ hs0).mono ?_
   rintro e w' ⟨rfl, rfl⟩
   go_wp2_with fail
   refine (HF.out _ (MixAt.new _ _ _ _ _ hs0)).mono ?_
   rintro e w' ⟨rfl, h⟩
   obtain ⟨g, c, hv, hO⟩ := h.var
   have cv := cell_of_one hv
   have HO := hid hO
   have HB := hid h.old
   clear h hv hO HF hmk c0 c1
   go_wp2
   go_ret
   exact ⟨_, _, rfl, HO.out, HB.out⟩
 ·obtain rfl : lb = m := by omega
  clear hm
  cases b with
  | none =>
   obtain ⟨rfl, rfl⟩ := bare rfl
   clear bare
   go_enter Tryz.func212, Tryz.ntmps212
   go_wp2_with fail
   refine (count_any _ _ _ _ hs0).mono ?_
   rintro e w' ⟨rfl, rfl⟩
   go_wp2_with fail
   refine (HF.out _ (MixAt.new _ _ _ _ _ hs0)).mono ?_
   rintro e w' ⟨rfl, h⟩
   obtain ⟨g, c, hv, hO⟩ := h.var
   have cv := cell_of_one hv
   have HO := hid hO
   have HB := hid h.old
   clear h hv hO HF hmk c0 c1
   go_wp2
   go_ret
   exact ⟨_, _, rfl, HO.out, HB.out⟩
  | some ad =>
   clear bare
   go_enter Tryz.func212, Tryz.ntmps212
   go_wp2_with fail
   refine (count_any _ _ _ _ hs0).mono ?_
   rintro e w' ⟨rfl, rfl⟩
   go_wp2_with fail
   refine (HF.out _ (MixAt.new _ _ _ _ _ hs0)).mono ?_
   rintro e w' ⟨rfl, h⟩
   obtain ⟨g, c, hv, hO⟩ := h.var
   have cv := cell_of_one hv
   have HO := hid hO
   have HB := hid h.old
   clear h hv hO HF hmk c0 c1
   go_wp2
   go_ret
   exact ⟨_, _, rfl, HO.out, HB.out⟩
end Go.Proofs.YtjgggialnegddaaGreat
