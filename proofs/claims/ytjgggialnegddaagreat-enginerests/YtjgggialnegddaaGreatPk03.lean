/-
  Mixes: Contract: Mix mixes rows by weights, mixK.
  RNums: Contracts of the document's numbers: sum, product, quotient, whole number, power of e, square root.
  RVecs: Contracts of the document's vectors: cut, both, Dot, Add, Scale, Relu.
  RVecs2: Contracts of the document's vectors: Scale, Relu, Norm, Soft.
  RTables: Contracts of the document's tables: Mul and Mix.
-/
import Derived.Test.YtjgggialnegddaaGreatPk02
namespace Go.Proofs.YtjgggialnegddaaGreat
open Go.RowKit
set_option linter.unusedVariables false
set_option maxRecDepth 1000000

/-- The rows mixed by the first k weights. -/
def mixK (ws : List Int) (xss : List (List Int)) : Nat → List Int
  | 0 => List.replicate (xss[0]?.getD []).length 0
  | k + 1 => pairK (fun x y => addZ x (mulZ y (ws[k]?.getD 0))) (mixK ws xss k) (xss[k]?.getD []) (min (mixK ws xss k).length (xss[k]?.getD []).length)
theorem mixK_len {ws : List Int} {xss : List (List Int)} (h : (xss[0]?.getD []).length ≤ 1000) (k : Nat) : (mixK ws xss k).length ≤ 1000 := by
  induction k with
  | zero => simpa [mixK] using h
  | succ k ih => simp only [mixK]; rw [pairK_len]; omega

theorem mix11_any (x y b : Int) (B : Nat) (w : World) (hB : w.heap[B]? = some (.cells #[.int .i64 b] 2 (0, 0))) :
    Calls Tryz.prog 239 #[.int .i64 x, .int .i64 y, .pointer (some ⟨B, 0, none⟩)] w fun e w' => e = .returned (.int .i64 (addZ x (mulZ y b))) ∧ w' = w := by
  have cs := cell_of_one hB
  clear hB
  go_enter Tryz.func239, Tryz.ntmps239
  go_wp2_with fail
  refine (mul_any _ _ _).mono ?_
  rintro e w' ⟨rfl, rfl⟩
  go_wp2_with fail
  refine (add_any _ _ _).mono ?_
  rintro e w' ⟨rfl, rfl⟩
  go_wp2
  go_ret
  exact ⟨rfl, rfl⟩

/-- What stands in memory between the rounds of Mix: the table, and what is mixed so far. -/
structure MixAt (w : World) (a : Option Addr) (len cap : Nat) (us : List Int) (W : World) : Prop where
  old : Below w.heap.size w W
  rows : W.heap[w.heap.size]? = some (.cells #[.slice a len cap] 132 (0, 0))
  var : ∃ g c, W.heap[w.heap.size + 2]? = some (.cells #[.slice (some ⟨g, 0, none⟩) us.length c] 131 (0, 0)) ∧ OwnK 2 w.heap.size g us.length c us W

theorem mix1_end {w wd w2 : World} {a : Option Addr} {len cap n g2 c2 : Nat} {vs : List Int} {v0 : Value} (hold : Below w.heap.size w wd) (hV : wd.heap[w.heap.size + 2]? = some (.cells #[v0] 131 (0, 0))) (hR : wd.heap[w.heap.size]? = some (.cells #[.slice a len cap] 132 (0, 0)))
    (hO2 : OwnK 2 wd.heap.size g2 n c2 vs w2) (hb2 : Below wd.heap.size wd w2) : MixAt w a len cap vs (w2.setCell ⟨w.heap.size + 2, 0, none⟩ (.slice (some ⟨g2, 0, none⟩) n c2)) := by
  have hl := hO2.len
  have hlt := lt_of_block hV
  have hgb := hO2.base
  have hV2 := (hb2.block _ hlt).trans hV
  subst hl
  refine ⟨(hold.trans (hb2.mono hold.size)).setCell (by show w.heap.size ≤ w.heap.size + 2; omega) _, ?_, g2, c2, one_setCell hV2, ?_⟩
  · rw [Below.heap_setCell _ _ _ _ (by show w.heap.size ≠ w.heap.size + 2; omega)]
    exact (hb2.block _ (lt_of_block hR)).trans hR
  · exact (hO2.low hold.size).same (Below.heap_setCell _ _ _ _ (by show g2 ≠ w.heap.size + 2; omega))

set_option maxHeartbeats 1000000 in
theorem mix1_any (w : World) (a : Option Addr) (len cap k : Nat) (hs : List Hd) (xss : List (List Int)) (us : List Int) (b : Int) (wr : World) (ht : Tbl w a len cap hs xss) (hk : k < len) (hu : us.length ≤ 1000) (h : MixAt w a len cap us wr) :
    Calls Tryz.prog 238 #[.int .i64 k, .int .i64 b, .pointer (some ⟨w.heap.size + 2, 0, none⟩), .pointer (some ⟨w.heap.size, 0, none⟩)] wr
      fun e w' => e = .returned (.tuple #[]) ∧ MixAt w a len cap (pairK (fun x y => addZ x (mulZ y b)) us (xss[k]?.getD []) (min us.length (xss[k]?.getD []).length)) w' := by
  obtain ⟨g, c, hv, hO⟩ := h.var
  obtain ⟨wb, hwb⟩ : ∃ wb, wb = wr.alloc (.cells #[.int .i64 b] 2) := ⟨_, rfl⟩
  have hb0 : Below wr.heap.size wr wb := by rw [hwb]; exact (Below.refl _ _).alloc (Nat.le_refl _) _
  have hnew : wb.heap[wr.heap.size]? = some (.cells #[.int .i64 b] 2 (0, 0)) := by rw [hwb]; exact heap_alloc_new wr _
  have hbd : Below w.heap.size w wb.drew := (h.old.trans (hb0.mono h.old.size)).drew
  have hrow := (ht.below hbd).rows k hk
  have hOb : OwnK 2 w.heap.size g us.length c us wb.drew := hO.stays hb0.drew
  have hC := madeofboth_any 239 #[.pointer (some ⟨wr.heap.size, 0, none⟩)] (enters_of Tryz.func239 (by kernel_rfl) rfl) (some ⟨g, 0, none⟩) (hs[k]?.getD (none, 0, 0)).1 us.length c (hs[k]?.getD (none, 0, 0)).2.1 (hs[k]?.getD (none, 0, 0)).2.2 us (xss[k]?.getD []) wb.drew hOb.reads hrow hu (ht.short k hk) (fun x y => addZ x (mulZ y b))
    fun x y W hW => (mix11_any x y b wr.heap.size W ((hW.block _ (by have := lt_of_block hnew; exact this)).trans hnew)).mono fun e w' ⟨h1, h2⟩ => ⟨h1, by rw [h2]; exact Below.refl _ _⟩
  have HSZ := hid hrow.size
  have cv := cell_of_one (((hb0.drew).block _ (lt_of_block hv)).trans hv)
  have cr := cell_of_one (((hb0.drew).block _ (lt_of_block h.rows)).trans h.rows)
  obtain ⟨b2, o2, ea, ce⟩ := (ht.below hbd).rd.cell k hk
  have hroom := ht.rd.room
  have hmost := ht.rd.most
  have HV : Hid (wb.drew.heap[w.heap.size + 2]? = some (.cells #[.slice (some ⟨g, 0, none⟩) us.length c] 131 (0, 0))) := ((hb0.drew).block _ (lt_of_block hv)).trans hv
  have HR : Hid (wb.drew.heap[w.heap.size]? = some (.cells #[.slice a len cap] 132 (0, 0))) := ((hb0.drew).block _ (lt_of_block h.rows)).trans h.rows
  have HO := hid hbd
  have hq : (k : Int) < (len : Int) := by omega
  clear hb0 hnew hbd hrow hOb hv hO h ht
  subst hwb
  subst ea
  generalize hs[k]?.getD (none, 0, 0) = z at *
  obtain ⟨z1, z2, z3⟩ := z
  simp only at ce hC HSZ
  go_enter Tryz.func238, Tryz.ntmps238
  go_wp2_with fail
  go_region_with (go_at_call 177; refine hC.mono ?_; rintro e w2 ⟨g2, c2, rfl, hO2, hb2⟩; have hv2 := (hb2.block _ (lt_of_block HV.out)).trans HV.out; have cv2 := cell_of_one hv2; have fv2 := free_of_one hv2)
  all_goals
    have HE := hid (mix1_end HO.out HV.out HR.out hO2 hb2)
    clear hO2 hb2 hv2 cv2 fv2 hC cv cr ce
    go_wp2
    go_end0
    refine ⟨rfl, ?_⟩
    rw [HSZ.out]
    exact HE.out

/-- The memory in which Mix begins. -/
theorem MixAt.new (w : World) (a : Option Addr) (len cap n : Nat) (hn : n ≤ 1000) :
    MixAt w a len cap (List.replicate n 0) (((w.alloc (.cells #[.slice a len cap] 132)).alloc (.cells (madeCells #[.int .i64 0] n) 2)).alloc (.cells #[.slice (some ⟨w.heap.size + 1, 0, none⟩) n n] 131)) := by
  have h1 := own_made 2 (w.alloc (.cells #[.slice a len cap] 132)) n (by omega)
  have e1 : (w.alloc (.cells #[.slice a len cap] 132)).heap.size = w.heap.size + 1 := by simp
  rw [e1] at h1
  refine ⟨?_, ?_, w.heap.size + 1, n, ?_, ?_⟩
  · exact (((Below.refl _ _).alloc (Nat.le_refl _) _).alloc (by simp) _).alloc (by simp; omega) _
  · rw [Below.heap_alloc _ _ _ (by simp; omega), Below.heap_alloc _ _ _ (by simp)]
    exact heap_alloc_new w _
  · have := heap_alloc_new ((w.alloc (.cells #[.slice a len cap] 132)).alloc (.cells (madeCells #[.int .i64 0] n) 2)) (.cells #[.slice (some ⟨w.heap.size + 1, 0, none⟩) n n] 131)
    rw [World.size_alloc, World.size_alloc] at this
    rw [List.length_replicate]
    exact this
  · rw [List.length_replicate]
    exact (h1.low (by omega)).stays ((Below.refl _ _).alloc (Nat.le_refl _) _)

theorem vmix_made (a b : Option Addr) (la ca lb cb : Nat) (hs : List Hd) (xss : List (List Int)) (ws : List Int) (w : World) (ha : Tbl w a la ca hs xss) (hb : Reads .i64 w b lb cb ws) (hla : la ≤ 1000) (hlb : lb ≤ 1000) (h0 : 0 < la) :
    Calls Tryz.prog 212 #[.slice b lb cb, .slice a la ca] w fun e w' => Made w (mixK ws xss (min lb la)).length (mixK ws xss (min lb la)) e w' := by
  obtain ⟨b0, o0, rfl, c0⟩ := ha.rd.cell 0 h0
  have hr0 := ha.rows 0 h0
  have hs0 := ha.short 0 h0
  have HZ := hid hr0.size
  have HL : Hid ((xss[0]?.getD []).length ≤ 1000) := by unfold Hid; rw [hr0.size]; exact hs0
  have HE : Hid (∀ n W, (xss[0]?.getD []).length = n → MixAt w (some ⟨b0, o0, none⟩) la ca (List.replicate n 0) W → Calls Tryz.prog 215 #[.slice b (min lb la) cb, .func (.func 238) #[] #[.pointer (some ⟨w.heap.size + 2, 0, none⟩), .pointer (some ⟨w.heap.size, 0, none⟩)]] W
      fun e w' => e = .returned (.tuple #[]) ∧ MixAt w (some ⟨b0, o0, none⟩) la ca (mixK ws xss (min lb la)) w') := by
    intro n W hn hW
    subst hn
    refine each_any 238 _ b (min lb la) cb (ws.take (min lb la)) W (by omega) (fun k W => MixAt w (some ⟨b0, o0, none⟩) la ca (mixK ws xss k) W) (enters_of Tryz.func238 (by kernel_rfl) rfl) (fun k wr h => (hb.below h.old).cut (Nat.min_le_left _ _)) hW ?_
    intro k wr hk hI
    rw [List.getElem?_take_of_lt hk]
    exact mix1_any w _ la ca k hs xss (mixK ws xss k) (ws[k]?.getD 0) wr ha (by omega) (mixK_len HL.out k) hI
  have r1 := hb.room
  have m1 := hb.most
  have bare := hb.bare
  have r2 := ha.rd.room
  have m2 := ha.rd.most
  have q0 : (0 : Int) < (la : Int) := by omega
  have qn : ((la : Int) == 0) = false := by simp; omega
  rw [Nat.add_zero] at c0
  have c1 := cell_al c0 (.cells #[.slice (some ⟨b0, o0, none⟩) la ca] 132)
  clear ha hb hr0
  generalize hs[0]?.getD (none, 0, 0) = z at *
  obtain ⟨z1, z2, z3⟩ := z
  simp only at c0 c1 hs0 HZ
  have hmk : ∀ W : World, (Instr.makeSlice 131 (.int .i64 (z2 : Int)) (.int .i64 (z2 : Int))).run Tryz.prog W = .ok (.slice (some ⟨W.heap.size, 0, none⟩) z2 z2) (W.alloc (.cells (madeCells #[.int .i64 0] z2) 2)) := fun W => make_ints W z2 (by omega)
  have HF := hid fun W => HE.out z2 W HZ.out
  clear HE HL HZ
  obtain ⟨m, hm⟩ : ∃ m, min lb la = m := ⟨_, rfl⟩
  rw [hm] at HF ⊢
  generalize mixK ws xss m = us at *
  rcases Nat.lt_or_ge la lb with hl | hl
  · obtain rfl : la = m := by omega
    clear hm
    cases b with
    | none => obtain ⟨rfl, rfl⟩ := bare rfl; omega
    | some ad =>
      clear bare
      go_enter Tryz.func212, Tryz.ntmps212
      go_wp2_with fail
      refine (count_any _ _ _ _ hs0).mono ?_
      rintro e w' ⟨rfl, rfl⟩
      go_wp2_with fail
      refine (HF.out _ (MixAt.new _ _ _ _ _ hs0)).mono ?_
      rintro e w' ⟨rfl, h⟩
      obtain ⟨g, c, hv, hO⟩ := h.var
      have cv := cell_of_one hv
      have HO := hid hO
      have HB := hid h.old
      clear h hv hO HF hmk c0 c1
      go_wp2
      go_ret
      exact ⟨_, _, rfl, HO.out, HB.out⟩
  · obtain rfl : lb = m := by omega
    clear hm
    cases b with
    | none =>
      obtain ⟨rfl, rfl⟩ := bare rfl
      clear bare
      go_enter Tryz.func212, Tryz.ntmps212
      go_wp2_with fail
      refine (count_any _ _ _ _ hs0).mono ?_
      rintro e w' ⟨rfl, rfl⟩
      go_wp2_with fail
      refine (HF.out _ (MixAt.new _ _ _ _ _ hs0)).mono ?_
      rintro e w' ⟨rfl, h⟩
      obtain ⟨g, c, hv, hO⟩ := h.var
      have cv := cell_of_one hv
      have HO := hid hO
      have HB := hid h.old
      clear h hv hO HF hmk c0 c1
      go_wp2
      go_ret
      exact ⟨_, _, rfl, HO.out, HB.out⟩
    | some ad =>
      clear bare
      go_enter Tryz.func212, Tryz.ntmps212
      go_wp2_with fail
      refine (count_any _ _ _ _ hs0).mono ?_
      rintro e w' ⟨rfl, rfl⟩
      go_wp2_with fail
      refine (HF.out _ (MixAt.new _ _ _ _ _ hs0)).mono ?_
      rintro e w' ⟨rfl, h⟩
      obtain ⟨g, c, hv, hO⟩ := h.var
      have cv := cell_of_one hv
      have HO := hid hO
      have HB := hid h.old
      clear h hv hO HF hmk c0 c1
      go_wp2
      go_ret
      exact ⟨_, _, rfl, HO.out, HB.out⟩
theorem vmix_any (a b : Option Addr) (la ca lb cb : Nat) (hs : List Hd) (xss : List (List Int)) (ws : List Int) (w : World) (ha : Tbl w a la ca hs xss) (hb : Reads .i64 w b lb cb ws) (hla : la ≤ 1000) (hlb : lb ≤ 1000) (h0 : 0 < la) :
    Calls Tryz.prog 212 #[.slice b lb cb, .slice a la ca] w fun e w' => Gives w (mixK ws xss (min lb la)).length (mixK ws xss (min lb la)) e w' :=
  (vmix_made a b la ca lb cb hs xss ws w ha hb hla hlb h0).mono fun e w' h => h.gives
theorem vmix_none (a b : Option Addr) (ca lb cb : Nat) (w : World) :
    Calls Tryz.prog 212 #[.slice b lb cb, .slice a 0 ca] w fun e w' => Gives w 0 [] e w' := by
  go_enter Tryz.func212, Tryz.ntmps212
  go_wp2
  go_ret
  exact ⟨_, _, rfl, Reads.nil _ _, (Below.refl _ _).alloc (Nat.le_refl _) _⟩
end Go.Proofs.YtjgggialnegddaaGreat
namespace Go.Proofs.YtjgggialnegddaaGreat
open Go.RowKit
set_option linter.unusedVariables false
set_option maxRecDepth 1000000

theorem rfrom_any (n : Int) (w : World) : Calls Tryz.prog 134 #[.int .i64 n] w fun e w' => e = .returned (.int .i64 (fromZ n)) ∧ w' = w := by
  by_cases h0 : n > 65536
  · have HQ := hid (from_hi h0)
    go_enter Tryz.func134, Tryz.ntmps134
    go_wp2_with fail
    refine (rwithin_any _ _).mono ?_
    rintro e w' ⟨rfl, rfl⟩
    go_wp2
    go_ret
    exact ⟨ret_int HQ, rfl⟩
  · by_cases h1 : n < -65536
    · have HQ := hid (from_lo h1)
      go_enter Tryz.func134, Tryz.ntmps134
      go_wp2_with fail
      refine (rwithin_any _ _).mono ?_
      rintro e w' ⟨rfl, rfl⟩
      go_wp2
      go_ret
      exact ⟨ret_int HQ, rfl⟩
    · have HQ : Hid (wi (n * 65536) = fromZ n) := by unfold fromZ; rw [wi_in (n := n) (by omega) (by omega)]; exact rfl
      go_enter Tryz.func134, Tryz.ntmps134
      go_wp2_with fail
      refine (rwithin_any _ _).mono ?_
      rintro e w' ⟨rfl, rfl⟩
      go_wp2
      go_ret
      exact ⟨ret_int HQ, rfl⟩
theorem rdiv_any (a b : Int) (w : World) : Calls Tryz.prog 135 #[.int .i64 a, .int .i64 b] w fun e w' => e = .returned (.int .i64 (divZ a b)) ∧ w' = w := by
  have a0 := wi_0 a
  have a1 := wi_1 a
  have b0 := wi_0 b
  have b1 := wi_1 b
  by_cases hb : wi b < 0
  · have HQ : Hid (wi (-(65536 * -wi a / wi b)) = divZ a b) := by unfold divZ byZ; rw [← Int.ediv_neg, if_neg (by omega), if_pos hb, show 65536 * -wi a = -(wi a * 65536) by omega]; exact rfl
    go_enter Tryz.func135, Tryz.ntmps135
    go_wp2_with fail
    refine (rwithin_any _ _).mono ?_
    rintro e w' ⟨rfl, rfl⟩
    go_wp2_with fail
    refine (rwithin_any _ _).mono ?_
    rintro e w' ⟨rfl, rfl⟩
    go_wp2_with fail
    refine (rby_any _ _ _ (by omega) (by omega) (by omega)).mono ?_
    rintro e w' ⟨rfl, rfl⟩
    go_wp2_with fail
    refine (rwithin_any _ _).mono ?_
    rintro e w' ⟨rfl, rfl⟩
    go_wp2
    go_ret
    exact ⟨ret_int HQ, rfl⟩
  · by_cases hb' : wi b = 0
    · have HQ : Hid (farZ (wi a) = divZ a b) := by unfold divZ; rw [if_pos hb']; exact rfl
      by_cases h0 : wi a > 0
      · have HF : Hid (farZ (wi a) = 2147483647) := by unfold farZ; rw [if_pos (by omega)]; exact rfl
        go_enter Tryz.func135, Tryz.ntmps135
        go_wp2_with fail
        refine (rwithin_any _ _).mono ?_
        rintro e w' ⟨rfl, rfl⟩
        go_wp2_with fail
        refine (rwithin_any _ _).mono ?_
        rintro e w' ⟨rfl, rfl⟩
        go_wp2
        go_ret
        exact ⟨ret_int (HF.symm.trans HQ), rfl⟩
      · by_cases h1 : wi a < 0
        · have HF : Hid (farZ (wi a) = -2147483648) := by unfold farZ; rw [if_neg (by omega), if_pos (by omega)]; exact rfl
          go_enter Tryz.func135, Tryz.ntmps135
          go_wp2_with fail
          refine (rwithin_any _ _).mono ?_
          rintro e w' ⟨rfl, rfl⟩
          go_wp2_with fail
          refine (rwithin_any _ _).mono ?_
          rintro e w' ⟨rfl, rfl⟩
          go_wp2
          go_ret
          exact ⟨ret_int (HF.symm.trans HQ), rfl⟩
        · have HF : Hid (farZ (wi a) = 0) := by unfold farZ; rw [if_neg (by omega), if_neg (by omega)]; exact rfl
          go_enter Tryz.func135, Tryz.ntmps135
          go_wp2_with fail
          refine (rwithin_any _ _).mono ?_
          rintro e w' ⟨rfl, rfl⟩
          go_wp2_with fail
          refine (rwithin_any _ _).mono ?_
          rintro e w' ⟨rfl, rfl⟩
          go_wp2
          go_ret
          exact ⟨ret_int (HF.symm.trans HQ), rfl⟩
    · have HQ : Hid (wi (65536 * wi a / wi b) = divZ a b) := by unfold divZ byZ; rw [if_neg (by omega), if_neg (by omega), Int.mul_comm 65536]; exact rfl
      go_enter Tryz.func135, Tryz.ntmps135
      go_wp2_with fail
      refine (rwithin_any _ _).mono ?_
      rintro e w' ⟨rfl, rfl⟩
      go_wp2_with fail
      refine (rwithin_any _ _).mono ?_
      rintro e w' ⟨rfl, rfl⟩
      go_wp2_with fail
      refine (rby_any _ _ _ (by omega) (by omega) (by omega)).mono ?_
      rintro e w' ⟨rfl, rfl⟩
      go_wp2_with fail
      refine (rwithin_any _ _).mono ?_
      rintro e w' ⟨rfl, rfl⟩
      go_wp2
      go_ret
      exact ⟨ret_int HQ, rfl⟩
theorem power_any (k : Int) (w : World) (k0 : 0 ≤ k) (k1 : k ≤ 47275) :
    Calls Tryz.prog 188 #[.int .i64 k] w fun e w' => e = .returned (.int .i64 (2 ^ min k.toNat 60)) ∧ w' = w := by
  go_enter Tryz.func188, Tryz.ntmps188
  go_wp2
  go_loop [3, 4] (fun v i => ∃ (n : Int) (j : Nat), v = .int .i64 n ∧ i = .int .i64 j ∧ (j : Int) ≤ k ∧ j ≤ 60 ∧ Hid (n = 2 ^ j)) (fun _ i => 60 - (intOf i).toNat)
  case atStart => exact ⟨_, 0, rfl, rfl, by omega, by omega, rfl⟩
  case round =>
    obtain ⟨n, j, rfl, rfl, hj, hj', HN⟩ := hrel
    by_cases h : (j : Int) < k
    · by_cases h' : j < 60
      · have n0 : 0 < n := by rw [HN.out]; exact two_pos j
        have n1 : n ≤ 576460752303423488 := by rw [HN.out]; exact two_le (show j ≤ 59 by omega)
        have HM : Hid (n * 2 = 2 ^ (j + 1)) := by rw [HN.out, Int.pow_succ]; exact rfl
        go_wp2
        go_round
        case rel => exact ⟨_, j + 1, rfl, by go_num, by omega, by omega, HM⟩
        case measure => simp [intOf]; omega
      · have HM : Hid (n = 2 ^ min k.toNat 60) := by rw [HN.out, show min k.toNat 60 = j by omega]; exact rfl
        go_wp2
        go_ret
        exact ⟨ret_int HM, rfl⟩
    · have HM : Hid (n = 2 ^ min k.toNat 60) := by rw [HN.out, show min k.toNat 60 = j by omega]; exact rfl
      go_wp2
      go_ret
      exact ⟨ret_int HM, rfl⟩
theorem rshr_far {p : Int} (p0 : 0 ≤ p) (p1 : p ≤ 131072) (n : Nat) : p / 2 ^ min n 60 = p / 2 ^ n := by
  by_cases h : n ≤ 60
  · rw [Nat.min_eq_left h]
  · rw [lift_far p0 p1 (n := n) (by omega), lift_far p0 p1 (by omega)]
theorem rexp_any (x : Int) (w : World) :
    Calls Tryz.prog 171 #[.int .i64 x] w fun e w' => e = .returned (.int .i64 (expZ x)) ∧ w' = w := by
  have x0 := wi_0 x
  have x1 := wi_1 x
  obtain ⟨y, k, f, hy, hk, hf, k0, k1, y0, y1, f0, f1, HE⟩ := exp_parts x
  have p := pw_bd f0 f1
  have p0 := p.1
  have p1 := p.2
  clear p
  have q := part_bd f0 f1
  have q0 := q.1
  have q1 := q.2
  clear q
  obtain ⟨p, hp⟩ : ∃ p, 65536 + f * (43691 + f * 21845 / 65536) / 65536 = p := ⟨_, rfl⟩
  have HP : pw f = p := hp
  rw [HP] at p0 p1 HE
  clear HP
  by_cases h16 : k ≥ 16
  · have HL : Hid (liftZ p k = 2147483647) := by unfold liftZ; rw [if_pos h16]; exact rfl
    go_enter Tryz.func171, Tryz.ntmps171
    go_wp2_with fail
    refine (rwithin_any _ _).mono ?_
    rintro e w' ⟨rfl, rfl⟩
    go_wp2_with fail
    refine (rby_any _ _ _ (by omega) (by omega) (by omega)).mono ?_
    rintro e w' ⟨rfl, rfl⟩
    rw [hy]
    go_wp2_with fail
    refine (rby_any _ _ _ (by omega) (by omega) (by omega)).mono ?_
    rintro e w' ⟨rfl, rfl⟩
    rw [hk]
    go_wp2_with fail
    refine (rby_any _ _ _ (by omega) (by omega) (by omega)).mono ?_
    rintro e w' ⟨rfl, rfl⟩
    go_wp2_with fail
    refine (rby_any _ _ _ (by omega) (by omega) (by omega)).mono ?_
    rintro e w' ⟨rfl, rfl⟩
    go_wp2
    go_ret
    exact ⟨ret_int (HE.trans HL).symm, rfl⟩
  · by_cases h0 : k < 0
    · have HL : Hid (p / 2 ^ min (-k).toNat 60 = liftZ p k) := by unfold liftZ; rw [if_neg h16, if_pos h0, rshr_far (by omega) p1]; exact rfl
      obtain ⟨m, hm⟩ : ∃ m : Int, 2 ^ min (-k).toNat 60 = m := ⟨_, rfl⟩
      have m0 : 0 < m := by rw [← hm]; exact two_pos _
      rw [hm] at HL
      go_enter Tryz.func171, Tryz.ntmps171
      go_wp2_with fail
      refine (rwithin_any _ _).mono ?_
      rintro e w' ⟨rfl, rfl⟩
      go_wp2_with fail
      refine (rby_any _ _ _ (by omega) (by omega) (by omega)).mono ?_
      rintro e w' ⟨rfl, rfl⟩
      rw [hy]
      go_wp2_with fail
      refine (rby_any _ _ _ (by omega) (by omega) (by omega)).mono ?_
      rintro e w' ⟨rfl, rfl⟩
      rw [hk]
      go_wp2_with fail
      refine (rby_any _ _ _ (by omega) (by omega) (by omega)).mono ?_
      rintro e w' ⟨rfl, rfl⟩
      go_wp2_with fail
      refine (rby_any _ _ _ (by omega) (by omega) (by omega)).mono ?_
      rintro e w' ⟨rfl, rfl⟩
      go_wp2_with fail
      refine (power_any _ _ (by omega) (by omega)).mono ?_
      rintro e w' ⟨rfl, rfl⟩
      rw [hm]
      go_wp2_with fail
      refine (rby_any _ _ _ (by omega) (by omega) m0).mono ?_
      rintro e w' ⟨rfl, rfl⟩
      go_wp2
      go_ret
      exact ⟨ret_int (HL.trans HE.out.symm), rfl⟩
    · have HL : Hid (wi (p * 2 ^ min k.toNat 60) = liftZ p k) := by unfold liftZ; rw [if_neg h16, if_neg h0, Nat.min_eq_left (by omega)]; exact rfl
      obtain ⟨m, hm⟩ : ∃ m : Int, 2 ^ min k.toNat 60 = m := ⟨_, rfl⟩
      have m0 : 0 < m := by rw [← hm]; exact two_pos _
      have m1 : m ≤ 32768 := by rw [← hm]; exact two_le (n := 15) (by omega)
      have b0 : 0 ≤ p * m := Int.mul_nonneg (by omega) (by omega)
      have b1 : p * m ≤ 131072 * 32768 := Int.mul_le_mul p1 m1 (by omega) (by omega)
      rw [hm] at HL
      go_enter Tryz.func171, Tryz.ntmps171
      go_wp2_with fail
      refine (rwithin_any _ _).mono ?_
      rintro e w' ⟨rfl, rfl⟩
      go_wp2_with fail
      refine (rby_any _ _ _ (by omega) (by omega) (by omega)).mono ?_
      rintro e w' ⟨rfl, rfl⟩
      rw [hy]
      go_wp2_with fail
      refine (rby_any _ _ _ (by omega) (by omega) (by omega)).mono ?_
      rintro e w' ⟨rfl, rfl⟩
      rw [hk]
      go_wp2_with fail
      refine (rby_any _ _ _ (by omega) (by omega) (by omega)).mono ?_
      rintro e w' ⟨rfl, rfl⟩
      go_wp2_with fail
      refine (rby_any _ _ _ (by omega) (by omega) (by omega)).mono ?_
      rintro e w' ⟨rfl, rfl⟩
      go_wp2_with fail
      refine (power_any _ _ (by omega) (by omega)).mono ?_
      rintro e w' ⟨rfl, rfl⟩
      rw [hm]
      go_wp2_with fail
      refine (rwithin_any _ _).mono ?_
      rintro e w' ⟨rfl, rfl⟩
      go_wp2
      go_ret
      exact ⟨ret_int (HL.trans HE.out.symm), rfl⟩
/-- The bit that is tried, if j are left. -/
def kZ : Nat → Int
  | 0 => 0
  | j + 1 => 2 ^ j
theorem kZ_half (j : Nat) {m : Int} (hm : 2 ^ j = m) : m / 2 = kZ j := by
  cases j with
  | zero => rw [← hm]; decide
  | succ j => rw [← hm, Int.pow_succ, kZ]; omega
theorem kZ_bd {j : Nat} (h : j ≤ 32) : 0 ≤ kZ j ∧ kZ j ≤ 2147483648 := by
  cases j with
  | zero => decide
  | succ j => exact ⟨Int.le_of_lt (two_pos j), two_le (n := 31) (by omega)⟩
set_option maxHeartbeats 1000000 in
theorem rsqrt_any (x : Int) (w : World) :
    Calls Tryz.prog 133 #[.int .i64 x] w fun e w' => e = .returned (.int .i64 (sqrtZ x)) ∧ w' = w := by
  have x0 := wi_0 x
  have x1 := wi_1 x
  obtain ⟨n, hn⟩ : ∃ n, 65536 * wi x = n := ⟨_, rfl⟩
  have n1 : n < 281474976710656 := by omega
  have HZ : Hid (rootB n 32 0 = sqrtZ x) := by rw [← sqrtZ_eq, ← hn, Int.mul_comm]; exact rfl
  go_enter Tryz.func133, Tryz.ntmps133
  go_wp2_with fail
  refine (rwithin_any _ _).mono ?_
  rintro e w' ⟨rfl, rfl⟩
  go_wp2
  go_loop [4, 5] (fun v i => ∃ (s k : Int) (j : Nat), v = .int .i64 s ∧ i = .int .i64 k ∧ Hid (k = kZ j) ∧ j ≤ 32 ∧ 0 ≤ s ∧ s ≤ 16777216 ∧ Hid (rootB n j s = sqrtZ x)) (fun _ i => (intOf i).toNat)
  case atStart => exact ⟨_, _, 32, rfl, rfl, (by decide : (2147483648 : Int) = kZ 32), by omega, by omega, by omega, HZ⟩
  case round =>
    obtain ⟨s, k, j, rfl, rfl, HK, hj, s0, s1, HR⟩ := hrel
    rcases j with _ | j
    · have hk : k = 0 := HK
      subst hk
      go_wp2
      go_ret
      exact ⟨ret_int HR, rfl⟩
    · have hm : (2 : Int) ^ j = k := HK.out.symm
      have m0 : 0 < k := by rw [← hm]; exact two_pos _
      have m1 : k ≤ 2147483648 := by rw [← hm]; exact two_le (n := 31) (by omega)
      have B := sq_bd s0 s1 (by omega) m1
      have b0 := B.1
      have b1 := B.2
      clear B
      have HH : Hid (k / 2 = kZ j) := kZ_half j hm
      by_cases hq : (s + k) * (s + k) ≤ n
      · have HN : Hid (rootB n j (s + k) = sqrtZ x) := by rw [← HR.out, rootB_yes (by rw [hm]; exact hq), hm]; exact rfl
        have := sq_small hq n1
        clear hm
        go_wp2
        go_round
        case rel => exact ⟨_, _, j, rfl, rfl, HH, by omega, by omega, by omega, HN⟩
        case measure => simp [intOf]; omega
      · have HN : Hid (rootB n j s = sqrtZ x) := by rw [← HR.out, rootB_no (by rw [hm]; exact hq)]; exact rfl
        clear hm
        go_wp2
        go_round
        case rel => exact ⟨_, _, j, rfl, rfl, HH, by omega, by omega, by omega, HN⟩
        case measure => simp [intOf]; omega
end Go.Proofs.YtjgggialnegddaaGreat
namespace Go.Proofs.YtjgggialnegddaaGreat
open Go.RowKit
set_option linter.unusedVariables false
set_option maxRecDepth 1000000

theorem rcut_any (a : Option Addr) (len cap : Nat) (xs : List Int) (w : World) (ha : Reads .i64 w a len cap xs) (hlen : len ≤ 1000) :
    Calls Tryz.prog 140 #[.slice a len cap] w fun e w' => e = .returned (.slice a len cap) ∧ w' = w := by
  have r := ha.room
  have m := ha.most
  cases a with
  | none =>
    obtain ⟨rfl, rfl⟩ := ha.bare rfl
    clear ha
    go_enter Tryz.func140, Tryz.ntmps140
    go_wp2
    go_ret
    exact ⟨rfl, rfl⟩
  | some ad =>
    clear ha
    go_enter Tryz.func140, Tryz.ntmps140
    go_wp2
    go_ret
    exact ⟨rfl, rfl⟩
theorem rboth_any (a b : Option Addr) (la ca lb cb m : Nat) (xs ys : List Int) (w : World) (ha : Reads .i64 w a la ca xs) (hb : Reads .i64 w b lb cb ys) (hla : la ≤ 1000) (hlb : lb ≤ 1000) (hm : min la lb = m) :
    Calls Tryz.prog 98 #[.slice a la ca, .slice b lb cb] w fun e w' => e = .returned (.int .i64 m) ∧ w' = w := by
  have h1 := rcut_any a la ca xs w ha hla
  have h2 := rcut_any b lb cb ys w hb hlb
  clear ha hb
  rcases Nat.lt_or_ge lb la with hl | hl
  · obtain rfl : lb = m := by omega
    clear hm
    go_enter Tryz.func98, Tryz.ntmps98
    go_wp2_with fail
    refine h1.mono ?_
    rintro e w' ⟨rfl, rfl⟩
    go_wp2_with fail
    refine h2.mono ?_
    rintro e w' ⟨rfl, rfl⟩
    go_wp2
    go_ret
    exact ⟨rfl, rfl⟩
  · obtain rfl : la = m := by omega
    clear hm
    go_enter Tryz.func98, Tryz.ntmps98
    go_wp2_with fail
    refine h1.mono ?_
    rintro e w' ⟨rfl, rfl⟩
    go_wp2_with fail
    refine h2.mono ?_
    rintro e w' ⟨rfl, rfl⟩
    go_wp2
    go_ret
    exact ⟨rfl, rfl⟩

set_option maxHeartbeats 1000000 in
theorem rvdot_any (a b : Option Addr) (la ca lb cb : Nat) (xs ys : List Int) (w : World) (ha : Reads .i64 w a la ca xs) (hb : Reads .i64 w b lb cb ys) (hla : la ≤ 1000) (hlb : lb ≤ 1000) :
    Calls Tryz.prog 136 #[.slice a la ca, .slice b lb cb] w fun e w' => e = .returned (.int .i64 (dotK xs ys (min la lb))) ∧ Below w.heap.size w w' := by
  obtain ⟨m, hm⟩ : ∃ m, min la lb = m := ⟨_, rfl⟩
  have hma : m ≤ la := by omega
  have hmb : m ≤ lb := by omega
  have HBo := hid fun W (h : Below w.heap.size w W) => rboth_any a b la ca lb cb m xs ys W (ha.below h) (hb.below h) hla hlb hm
  rw [hm]
  have HA := hid ha
  have HB := hid hb
  clear ha hb hm
  go_enter Tryz.func136, Tryz.ntmps136
  go_wp2_with fail
  go_loopw [5, 6] (fun n i W => ∃ k : Nat, k ≤ m ∧ n = .int .i64 (dotK xs ys k) ∧ i = .int .i64 k ∧ Hid (Below w.heap.size w W)) (fun _ i _ => m - (intOf i).toNat)
  case atStart => exact ⟨0, Nat.zero_le _, rfl, rfl, Below.refl _ _⟩
  case round =>
    obtain ⟨k, hk, rfl, rfl, HW⟩ := hrel
    have hBo := HBo.out wr HW.out
    by_cases hlt : k < m
    · obtain ⟨b1, o1, rfl, c1⟩ := (HA.out.below HW.out).cell k (by omega)
      obtain ⟨b2, o2, rfl, c2⟩ := (HB.out.below HW.out).cell k (by omega)
      have r1 := HA.out.room
      have r2 := HB.out.room
      have m1 := HA.out.most
      have m2 := HB.out.most
      have q1 : (k : Int) < (la : Int) := by omega
      have q2 : (k : Int) < (lb : Int) := by omega
      have q3 : k < la := by omega
      have q4 : k < lb := by omega
      have HE : Hid (addZ (dotK xs ys k) (mulZ (xs[k]?.getD 0) (ys[k]?.getD 0)) = dotK xs ys (k + 1)) := rfl
      clear HA HB HBo
      generalize xs[k]?.getD 0 = x at *
      generalize ys[k]?.getD 0 = y at *
      generalize dotK xs ys k = s at *
      go_wp2_with fail
      refine hBo.mono ?_
      rintro e w' ⟨rfl, rfl⟩
      clear hBo
      go_wp2_with fail
      go_region_held3 (fun W : World => W.cell? ⟨b1, o1 + k, none⟩ = some (.int .i64 x) ∧ W.cell? ⟨b2, o2 + k, none⟩ = some (.int .i64 y)) (first | exact ⟨c1, c2⟩ | assumption) (first | (go_at_call 101; refine (rmul_any _ _ _).mono ?_; rintro e w' ⟨rfl, rfl⟩) | (go_at_call 99; refine (radd_any _ _ _).mono ?_; rintro e w' ⟨rfl, rfl⟩))
      go_wp2_with fail
      go_round
      case rel => exact ⟨k + 1, by omega, by rw [HE.out], by go_num, HW.out.drew⟩
      case measure => simp [intOf]; omega
    · obtain rfl : k = m := by omega
      clear HA HB HBo
      go_wp2_with fail
      refine hBo.mono ?_
      rintro e w' ⟨rfl, rfl⟩
      clear hBo
      go_wp2
      go_ret
      exact ⟨rfl, HW.out⟩

/-- The call hands back a row of its own. -/
def OwnG (w : World) (n : Nat) (xs : List Int) (e : Ending) (w' : World) : Prop := ∃ v, e = .returned v ∧ w'.ownsRow w.heap.size 2 1 v n (xs.map (Value.int .i64)) ∧ Below w.heap.size w w'
theorem OwnG.gives {w w' : World} {n : Nat} {xs : List Int} {e : Ending} (h : OwnG w n xs e w') : Gives w n xs e w' := by
  obtain ⟨v, rfl, h1, h2⟩ := h
  exact gives_own h1 h2
set_option maxHeartbeats 1000000 in
theorem rvadd_own (a b : Option Addr) (la ca lb cb : Nat) (xs ys : List Int) (w : World) (ha : Reads .i64 w a la ca xs) (hb : Reads .i64 w b lb cb ys) (hla : la ≤ 1000) (hlb : lb ≤ 1000) :
    Calls Tryz.prog 71 #[.slice a la ca, .slice b lb cb] w fun e w' => OwnG w (min la lb) (pairK addZ xs ys (min la lb)) e w' := by
  obtain ⟨i0, hi, hz0, hz1, hz2⟩ := info_parts Tryz.info2
  obtain ⟨m, hm⟩ : ∃ m, min la lb = m := ⟨_, rfl⟩
  have hma : m ≤ la := by omega
  have hmb : m ≤ lb := by omega
  have HBo := hid fun W (h : Below w.heap.size w W) => rboth_any a b la ca lb cb m xs ys W (ha.below h) (hb.below h) hla hlb hm
  rw [hm]
  have HA := hid ha
  have HB := hid hb
  clear ha hb hm
  go_enter Tryz.func71, Tryz.ntmps71
  go_wp2_with fail
  go_loopw [5, 6] (fun u i W => ∃ k : Nat, k ≤ m ∧ i = .int .i64 k ∧ Hid (W.ownsRow w.heap.size 2 1 u k ((pairK addZ xs ys k).map (Value.int .i64))) ∧ Hid (Below w.heap.size w W)) (fun _ i _ => m - (intOf i).toNat)
  case atStart => exact ⟨0, Nat.zero_le _, rfl, World.ownsRow_nil _ _ _ _, Below.refl _ _⟩
  case round =>
    obtain ⟨k, hk, rfl, HO, HW⟩ := hrel
    have hBo := HBo.out wr HW.out
    by_cases hlt : k < m
    · obtain ⟨b1, o1, rfl, c1⟩ := (HA.out.below HW.out).cell k (by omega)
      obtain ⟨b2, o2, rfl, c2⟩ := (HB.out.below HW.out).cell k (by omega)
      have HK : Hid (∀ W, Below w.heap.size w W → W.cell? ⟨b1, o1 + k, none⟩ = some (.int .i64 (xs[k]?.getD 0)) ∧ W.cell? ⟨b2, o2 + k, none⟩ = some (.int .i64 (ys[k]?.getD 0))) := by
        intro W h
        obtain ⟨b, o, e, c⟩ := (HA.out.below h).cell k (by omega)
        obtain ⟨b', o', e', c'⟩ := (HB.out.below h).cell k (by omega)
        cases e
        cases e'
        exact ⟨c, c'⟩
      have r1 := HA.out.room
      have r2 := HB.out.room
      have m1 := HA.out.most
      have m2 := HB.out.most
      have q1 : (k : Int) < (la : Int) := by omega
      have q2 : (k : Int) < (lb : Int) := by omega
      have q3 : k < la := by omega
      have q4 : k < lb := by omega
      have HE : Hid (pairK addZ xs ys k ++ [addZ (xs[k]?.getD 0) (ys[k]?.getD 0)] = pairK addZ xs ys (k + 1)) := rfl
      have HS : Hid (w.heap.size ≤ wr.heap.size) := HW.out.size
      clear HA HB HBo
      generalize xs[k]?.getD 0 = x at *
      generalize ys[k]?.getD 0 = y at *
      generalize pairK addZ xs ys k = us at *
      go_wp2_with fail
      refine hBo.mono ?_
      rintro e w' ⟨rfl, rfl⟩
      clear hBo
      rename World => wr
      go_wp2_with fail
      go_region_held3 (fun W : World => W.cell? ⟨b1, o1 + k, none⟩ = some (.int .i64 x) ∧ W.cell? ⟨b2, o2 + k, none⟩ = some (.int .i64 y)) (first | exact ⟨c1, c2⟩ | assumption | exact HK.out _ (HW.out.alloc HS.out _) | exact HK.out _ (HW.out.drew.alloc HS.out _) | exact HK.out _ HB3.out) (first | (go_at_call 99; refine (radd_any _ _ _).mono ?_; rintro e w' ⟨rfl, rfl⟩) | (refine step_append_reads (by rfl) 25 (by rfl) (.tmp 14) (.tmp 24) 131 (by rfl) w.heap.size 2 i0 (.int .i64 0) 8 Tryz.underlying131 hi hz0 hz1 hz2 rfl .i64 _ k us (by rfl) (HO.out.alloc _) _ 1 1 [addZ x y] (by rfl) (Reads.oned _ _ _) (by omega) (by omega) (by omega) (Nat.le_trans HS.out (by simp)) ?_; intro v' w3 hO3 hb3; have HB3 := hid ((HW.out.alloc HS.out _).drew.trans hb3)))
      have HO3 : Hid (w3.ownsRow w.heap.size 2 1 v' (k + 1) ((pairK addZ xs ys (k + 1)).map (Value.int .i64))) := by rw [← HE.out]; exact hO3
      clear hO3 hb3 HK c1 c2
      go_wp2_with fail
      go_round
      case rel => exact ⟨k + 1, by omega, by go_num, HO3, HB3⟩
      case measure => simp [intOf]; omega
    · obtain rfl : k = m := by omega
      clear HA HB HBo
      go_wp2_with fail
      refine hBo.mono ?_
      rintro e w' ⟨rfl, rfl⟩
      clear hBo
      go_wp2
      go_ret
      exact ⟨_, rfl, HO.out, HW.out⟩
theorem rvadd_any (a b : Option Addr) (la ca lb cb : Nat) (xs ys : List Int) (w : World) (ha : Reads .i64 w a la ca xs) (hb : Reads .i64 w b lb cb ys) (hla : la ≤ 1000) (hlb : lb ≤ 1000) :
    Calls Tryz.prog 71 #[.slice a la ca, .slice b lb cb] w fun e w' => Gives w (min la lb) (pairK addZ xs ys (min la lb)) e w' := (rvadd_own a b la ca lb cb xs ys w ha hb hla hlb).mono fun e w' h => h.gives
end Go.Proofs.YtjgggialnegddaaGreat
namespace Go.Proofs.YtjgggialnegddaaGreat
open Go.RowKit
set_option linter.unusedVariables false
set_option maxRecDepth 1000000

theorem map_snoc {f : Int → Int} {zs : List Int} {k : Nat} (h : k < zs.length) : (zs.take k).map f ++ [f (zs[k]?.getD 0)] = (zs.take (k + 1)).map f := by
  rw [take_snoc h, List.map_append]; rfl
theorem map_all {f : Int → Int} {zs : List Int} {n : Nat} (h : zs.length = n) : (zs.take n).map f = zs.map f := by rw [List.take_of_length_le (by omega)]

set_option maxHeartbeats 1000000 in
theorem rvscale_any (a : Option Addr) (len cap : Nat) (zs : List Int) (by_ : Int) (w : World) (ha : Reads .i64 w a len cap zs) (hlen : len ≤ 1000) :
    Calls Tryz.prog 170 #[.slice a len cap, .int .i64 by_] w fun e w' => Gives w len (zs.map (mulZ · by_)) e w' := by
  obtain ⟨i0, hi, hz0, hz1, hz2⟩ := info_parts Tryz.info2
  have HBo := hid fun W (h : Below w.heap.size w W) => rcut_any a len cap zs W (ha.below h) hlen
  have HL : Hid (zs.length = len) := ha.size
  have HA := hid ha
  clear ha
  go_enter Tryz.func170, Tryz.ntmps170
  go_wp2_with fail
  go_loopw [5, 6] (fun u i W => ∃ k : Nat, k ≤ len ∧ i = .int .i64 k ∧ Hid (W.ownsRow w.heap.size 2 1 u k (((zs.take k).map (mulZ · by_)).map (Value.int .i64))) ∧ Hid (Below w.heap.size w W)) (fun _ i _ => len - (intOf i).toNat)
  case atStart => exact ⟨0, Nat.zero_le _, rfl, World.ownsRow_nil _ _ _ _, Below.refl _ _⟩
  case round =>
    obtain ⟨k, hk, rfl, HO, HW⟩ := hrel
    have hBo := HBo.out wr HW.out
    by_cases hlt : k < len
    · obtain ⟨b1, o1, rfl, c1⟩ := (HA.out.below HW.out).cell k (by omega)
      have r1 := HA.out.room
      have m1 := HA.out.most
      have HE := hid (map_snoc (f := (mulZ · by_)) (zs := zs) (k := k) (by have := HL.out; omega))
      have HS : Hid (w.heap.size ≤ wr.heap.size) := HW.out.size
      clear HA HBo
      generalize zs[k]?.getD 0 = x at *
      generalize (zs.take k).map (mulZ · by_) = us at *
      go_wp2_with fail
      refine hBo.mono ?_
      rintro e w' ⟨rfl, rfl⟩
      clear hBo
      rename World => wr
      go_wp2_with fail
      refine (rmul_any _ _ _).mono ?_
      rintro e w' ⟨rfl, rfl⟩
      rename World => wr
      go_wp2_with (at_builtin; refine append_any _ rfl (.tmp 14) (.tmp 21) 131 rfl w.heap.size 2 i0 (.int .i64 0) 8 Tryz.underlying131 hi hz0 hz1 hz2 rfl .i64 _ k us rfl (HO.out.alloc _) _ 1 1 [mulZ x by_] rfl (Reads.one _ _ _) (by omega) (by omega) (Nat.le_trans HS.out (by simp)) ?_; intro v' w3 hO3 hb3)
      have HB3 := hid ((HW.out.alloc HS.out _).trans hb3)
      have HO3 : Hid (w3.ownsRow w.heap.size 2 1 v' (k + 1) (((zs.take (k + 1)).map (mulZ · by_)).map (Value.int .i64))) := by rw [← HE.out]; exact hO3
      clear hO3 hb3
      go_round
      case rel => exact ⟨k + 1, by omega, by go_num, HO3, HB3⟩
      case measure => simp [intOf]; omega
    · obtain rfl : k = len := by omega
      have HE : Hid (wr.ownsRow w.heap.size 2 1 u5 k ((zs.map (mulZ · by_)).map (Value.int .i64))) := by rw [← map_all HL.out]; exact HO.out
      clear HA HBo
      go_wp2_with fail
      refine hBo.mono ?_
      rintro e w' ⟨rfl, rfl⟩
      clear hBo
      go_wp2
      go_ret
      exact gives_own HE.out HW.out

set_option maxHeartbeats 1000000 in
theorem rvrelu_any (a : Option Addr) (len cap : Nat) (zs : List Int) (w : World) (ha : Reads .i64 w a len cap zs) (hlen : len ≤ 1000) :
    Calls Tryz.prog 139 #[.slice a len cap] w fun e w' => Gives w len (zs.map (fun n => max (wi n) 0)) e w' := by
  obtain ⟨i0, hi, hz0, hz1, hz2⟩ := info_parts Tryz.info2
  have HBo := hid fun W (h : Below w.heap.size w W) => rcut_any a len cap zs W (ha.below h) hlen
  have HL : Hid (zs.length = len) := ha.size
  have HA := hid ha
  clear ha
  go_enter Tryz.func139, Tryz.ntmps139
  go_wp2_with fail
  go_loopw [3, 4] (fun u i W => ∃ k : Nat, k ≤ len ∧ i = .int .i64 k ∧ Hid (W.ownsRow w.heap.size 2 1 u k (((zs.take k).map (fun n => max (wi n) 0)).map (Value.int .i64))) ∧ Hid (Below w.heap.size w W)) (fun _ i _ => len - (intOf i).toNat)
  case atStart => exact ⟨0, Nat.zero_le _, rfl, World.ownsRow_nil _ _ _ _, Below.refl _ _⟩
  case round =>
    obtain ⟨k, hk, rfl, HO, HW⟩ := hrel
    have hBo := HBo.out wr HW.out
    by_cases hlt : k < len
    · obtain ⟨b1, o1, rfl, c1⟩ := (HA.out.below HW.out).cell k (by omega)
      have r1 := HA.out.room
      have m1 := HA.out.most
      have HE := hid (map_snoc (f := fun n => max (wi n) 0) (zs := zs) (k := k) (by have := HL.out; omega))
      have HS : Hid (w.heap.size ≤ wr.heap.size) := HW.out.size
      clear HA HBo
      generalize zs[k]?.getD 0 = x at *
      generalize (zs.take k).map (fun n => max (wi n) 0) = us at *
      rcases Int.lt_or_le (wi x) 0 with hx | hx
      · have HX : Hid (max (wi x) 0 = 0) := by unfold Hid; omega
        rw [HX.out] at HE
        go_wp2_with fail
        refine hBo.mono ?_
        rintro e w' ⟨rfl, rfl⟩
        clear hBo
        rename World => wr
        go_wp2_with fail
        refine (rwithin_any _ _).mono ?_
        rintro e w' ⟨rfl, rfl⟩
        rename World => wr
        go_wp2_with (at_builtin; refine append_any _ rfl (.tmp 12) (.tmp 19) 131 rfl w.heap.size 2 i0 (.int .i64 0) 8 Tryz.underlying131 hi hz0 hz1 hz2 rfl .i64 _ k us rfl (HO.out.alloc _) _ 1 1 [0] rfl (Reads.one _ _ _) (by omega) (by omega) (Nat.le_trans HS.out (by simp)) ?_; intro v' w3 hO3 hb3)
        have HB3 := hid ((HW.out.alloc HS.out _).trans hb3)
        have HO3 : Hid (w3.ownsRow w.heap.size 2 1 v' (k + 1) (((zs.take (k + 1)).map (fun n => max (wi n) 0)).map (Value.int .i64))) := by rw [← HE.out]; exact hO3
        clear hO3 hb3
        go_round
        case rel => exact ⟨k + 1, by omega, by go_num, HO3, HB3⟩
        case measure => simp [intOf]; omega
      · have HX : Hid (max (wi x) 0 = wi x) := by unfold Hid; omega
        rw [HX.out] at HE
        go_wp2_with fail
        refine hBo.mono ?_
        rintro e w' ⟨rfl, rfl⟩
        clear hBo
        rename World => wr
        go_wp2_with fail
        refine (rwithin_any _ _).mono ?_
        rintro e w' ⟨rfl, rfl⟩
        rename World => wr
        go_wp2_with (at_builtin; refine append_any _ rfl (.tmp 12) (.tmp 19) 131 rfl w.heap.size 2 i0 (.int .i64 0) 8 Tryz.underlying131 hi hz0 hz1 hz2 rfl .i64 _ k us rfl (HO.out.alloc _) _ 1 1 [wi x] rfl (Reads.one _ _ _) (by omega) (by omega) (Nat.le_trans HS.out (by simp)) ?_; intro v' w3 hO3 hb3)
        have HB3 := hid ((HW.out.alloc HS.out _).trans hb3)
        have HO3 : Hid (w3.ownsRow w.heap.size 2 1 v' (k + 1) (((zs.take (k + 1)).map (fun n => max (wi n) 0)).map (Value.int .i64))) := by rw [← HE.out]; exact hO3
        clear hO3 hb3
        go_round
        case rel => exact ⟨k + 1, by omega, by go_num, HO3, HB3⟩
        case measure => simp [intOf]; omega
    · obtain rfl : k = len := by omega
      have HE : Hid (wr.ownsRow w.heap.size 2 1 u3 k ((zs.map (fun n => max (wi n) 0)).map (Value.int .i64))) := by rw [← map_all HL.out]; exact HO.out
      clear HA HBo
      go_wp2_with fail
      refine hBo.mono ?_
      rintro e w' ⟨rfl, rfl⟩
      clear hBo
      go_wp2
      go_ret
      exact gives_own HE.out HW.out

set_option maxHeartbeats 2000000 in
theorem rvnorm_any (a : Option Addr) (len cap : Nat) (zs : List Int) (w : World) (ha : Reads .i64 w a len cap zs) (hlen : len ≤ 1000) :
    Calls Tryz.prog 130 #[.slice a len cap] w fun e w' => Gives w len (normL zs) e w' := by
  have hz := ha.size
  subst hz
  obtain ⟨i0, hi, hz0, hz1, hz2⟩ := info_parts Tryz.info2
  have hD := rvdot_any a a _ cap _ cap zs zs w ha ha hlen hlen
  rw [Nat.min_self] at hD
  have HBo := hid fun W (h : Below w.heap.size w W) => rcut_any a zs.length cap zs W (ha.below h) hlen
  have HA := hid ha
  obtain ⟨mm, hmm⟩ : ∃ mm, addZ (divZ (dotK zs zs zs.length) (fromZ zs.length)) 1 = mm := ⟨_, rfl⟩
  have HR : Hid (sqrtZ mm = rootZ zs) := by unfold rootZ; rw [hmm]; exact rfl
  have HMM := hid hmm
  clear ha hmm
  go_enter Tryz.func130, Tryz.ntmps130
  go_wp2_with fail
  refine hD.mono ?_
  rintro e w1 ⟨rfl, hb1⟩
  have hBo1 := HBo.out w1 hb1
  have HB1 := hid hb1
  clear hD hb1
  go_wp2_with fail
  refine hBo1.mono ?_
  rintro e w' ⟨rfl, rfl⟩
  clear hBo1
  rename World => w1
  go_wp2_with fail
  refine (rfrom_any _ _).mono ?_
  rintro e w' ⟨rfl, rfl⟩
  go_wp2_with fail
  refine (rdiv_any _ _ _).mono ?_
  rintro e w' ⟨rfl, rfl⟩
  go_wp2_with fail
  refine (radd_any _ _ _).mono ?_
  rintro e w' ⟨rfl, rfl⟩
  rw [HMM.out]
  rename World => w1
  go_wp2_with fail
  go_loopw [4, 5] (fun u i W => ∃ k : Nat, k ≤ zs.length ∧ i = .int .i64 k ∧ Hid (W.ownsRow w.heap.size 2 1 u k (((zs.take k).map (divZ · (rootZ zs))).map (Value.int .i64))) ∧ Hid (Below w.heap.size w W)) (fun _ i _ => zs.length - (intOf i).toNat)
  case atStart => exact ⟨0, Nat.zero_le _, rfl, World.ownsRow_nil _ _ _ _, HB1⟩
  case round =>
    obtain ⟨k, hk, rfl, HO, HW⟩ := hrel
    clear HB1
    rename World => wr
    have hBo := HBo.out wr HW.out
    by_cases hlt : k < zs.length
    · obtain ⟨b1, o1, rfl, c1⟩ := (HA.out.below HW.out).cell k (by omega)
      have HK : Hid (∀ W, Below w.heap.size w W → W.cell? ⟨b1, o1 + k, none⟩ = some (.int .i64 (zs[k]?.getD 0))) := by
        intro W h
        obtain ⟨b, o, e, c⟩ := (HA.out.below h).cell k (by omega)
        cases e
        exact c
      have r1 := HA.out.room
      have m1 := HA.out.most
      have q1 : (k : Int) < (zs.length : Int) := by omega
      have HE := hid (map_snoc (f := (divZ · (rootZ zs))) (zs := zs) (k := k) hlt)
      have HS : Hid (w.heap.size ≤ wr.heap.size) := HW.out.size
      clear HA HBo
      generalize zs[k]?.getD 0 = x at *
      generalize rootZ zs = rt at *
      generalize (zs.take k).map (divZ · rt) = us at *
      go_wp2_with fail
      refine hBo.mono ?_
      rintro e w' ⟨rfl, rfl⟩
      clear hBo
      rename World => wr
      go_wp2_with fail
      go_region_held3 (fun W : World => W.cell? ⟨b1, o1 + k, none⟩ = some (.int .i64 x)) (first | exact c1 | assumption | exact HK.out _ (HW.out.alloc HS.out _) | exact HK.out _ (HW.out.drew.alloc HS.out _) | exact HK.out _ HB3.out) (first | (go_at_call 133; refine (rsqrt_any _ _).mono ?_; rintro e w' ⟨rfl, rfl⟩; rw [HR.out]) | (go_at_call 135; refine (rdiv_any _ _ _).mono ?_; rintro e w' ⟨rfl, rfl⟩) | (refine step_append_reads (by rfl) 31 (by rfl) (.tmp 22) (.tmp 30) 131 (by rfl) w.heap.size 2 i0 (.int .i64 0) 8 Tryz.underlying131 hi hz0 hz1 hz2 rfl .i64 _ k us (by rfl) (HO.out.alloc _) _ 1 1 [divZ x rt] (by rfl) (Reads.oned _ _ _) (by omega) (by omega) (by omega) (Nat.le_trans HS.out (by simp)) ?_; intro v' w3 hO3 hb3; have HB3 := hid ((HW.out.alloc HS.out _).drew.trans hb3)))
      have HO3 : Hid (w3.ownsRow w.heap.size 2 1 v' (k + 1) (((zs.take (k + 1)).map (divZ · rt)).map (Value.int .i64))) := by rw [← HE.out]; exact hO3
      clear hO3 hb3 HK c1
      go_wp2_with fail
      go_round
      case rel => exact ⟨k + 1, by omega, by go_num, HO3, HB3⟩
      case measure => simp [intOf]; omega
    · obtain rfl : k = zs.length := by omega
      have HE : Hid (wr.ownsRow w.heap.size 2 1 u4 zs.length ((normL zs).map (Value.int .i64))) := by unfold normL; rw [← map_all rfl]; exact HO.out
      clear HA HBo
      go_wp2_with fail
      refine hBo.mono ?_
      rintro e w' ⟨rfl, rfl⟩
      clear hBo
      go_wp2
      go_ret
      exact gives_own HE.out HW.out
end Go.Proofs.YtjgggialnegddaaGreat
namespace Go.Proofs.YtjgggialnegddaaGreat
open Go.RowKit
set_option linter.unusedVariables false
set_option maxRecDepth 1000000

set_option maxHeartbeats 1000000 in
theorem rvmul_own (a b : Option Addr) (la ca lb cb : Nat) (hs : List Hd) (xss : List (List Int)) (ys : List Int) (w : World) (ha : Tbl w a la ca hs xss) (hb : Reads .i64 w b lb cb ys) (hla : la ≤ 1000) (hlb : lb ≤ 1000) :
    Calls Tryz.prog 131 #[.slice a la ca, .slice b lb cb] w fun e w' => OwnG w la (rowK (mulF xss ys) la) e w' := by
  obtain ⟨i0, hi, hz0, hz1, hz2⟩ := info_parts Tryz.info2
  have HC : Hid (∀ k W, k < la → Below w.heap.size w W → Calls Tryz.prog 136 #[.slice (hs[k]?.getD (none, 0, 0)).1 (hs[k]?.getD (none, 0, 0)).2.1 (hs[k]?.getD (none, 0, 0)).2.2, .slice b lb cb] W fun e w' => e = .returned (.int .i64 (mulF xss ys k)) ∧ Below W.heap.size W w') := by
    intro k W hk hW
    have h1 := (ha.below hW).rows k hk
    have h2 := hb.below hW
    refine (rvdot_any _ _ _ _ _ _ _ _ W h1 h2 (ha.short k hk) hlb).mono ?_
    rintro e w' ⟨e1, e2⟩
    refine ⟨?_, e2⟩
    rw [e1]
    unfold mulF
    rw [h1.size, h2.size]
  have HA := hid ha
  have r1 := ha.rd.room
  have m1 := ha.rd.most
  clear ha hb
  go_enter Tryz.func131, Tryz.ntmps131
  go_wp2_with fail
  go_loopw [5, 6] (fun u i W => ∃ k : Nat, k ≤ la ∧ i = .int .i64 k ∧ Hid (W.ownsRow w.heap.size 2 1 u k ((rowK (mulF xss ys) k).map (Value.int .i64))) ∧ Hid (Below w.heap.size w W)) (fun _ i _ => la - (intOf i).toNat)
  case atStart => exact ⟨0, Nat.zero_le _, rfl, World.ownsRow_nil _ _ _ _, Below.refl _ _⟩
  case round =>
    obtain ⟨k, hk, rfl, HO, HW⟩ := hrel
    by_cases hlt : k < la
    · obtain ⟨b1, o1, rfl, c1⟩ := (HA.out.rd.below HW.out).cell k hlt
      have hC := HC.out k wr hlt HW.out
      have q1 : (k : Int) < (la : Int) := by omega
      have q2 : (k : Int) < 4096 := by omega
      have HE := hid (rowK_snoc (mulF xss ys) k)
      clear HA HC
      generalize hs[k]?.getD (none, 0, 0) = z at *
      obtain ⟨z1, z2, z3⟩ := z
      simp only at c1 hC
      generalize mulF xss ys k = x at *
      generalize rowK (mulF xss ys) k = us at *
      go_wp2_with fail
      refine hC.mono ?_
      rintro e w2 ⟨rfl, hb2⟩
      have HO2 := hid (own_below HO.out hb2)
      have HW2 := hid (HW.out.trans (hb2.mono HW.out.size))
      have HS : Hid (w.heap.size ≤ w2.heap.size) := HW2.out.size
      clear hb2 hC c1 HO HW
      go_wp2_with (at_builtin; refine append_any _ rfl (.tmp 17) (.tmp 24) 131 rfl w.heap.size 2 i0 (.int .i64 0) 8 Tryz.underlying131 hi hz0 hz1 hz2 rfl .i64 _ k us rfl (HO2.out.alloc _) _ 1 1 [x] rfl (Reads.one _ _ _) (by omega) (by omega) (Nat.le_trans HS.out (by simp)) ?_; intro v' w3 hO3 hb3)
      have HB3 := hid ((HW2.out.alloc HS.out _).trans hb3)
      have HO3 : Hid (w3.ownsRow w.heap.size 2 1 v' (k + 1) ((rowK (mulF xss ys) (k + 1)).map (Value.int .i64))) := by rw [← HE.out]; exact hO3
      clear hO3 hb3
      go_round
      case rel => exact ⟨k + 1, by omega, by go_num, HO3, HB3⟩
      case measure => simp [intOf]; omega
    · obtain rfl : k = la := by omega
      clear HA HC
      go_wp2
      go_ret
      exact ⟨_, rfl, HO.out, HW.out⟩
theorem rvmul_any (a b : Option Addr) (la ca lb cb : Nat) (hs : List Hd) (xss : List (List Int)) (ys : List Int) (w : World) (ha : Tbl w a la ca hs xss) (hb : Reads .i64 w b lb cb ys) (hla : la ≤ 1000) (hlb : lb ≤ 1000) :
    Calls Tryz.prog 131 #[.slice a la ca, .slice b lb cb] w fun e w' => Gives w la (rowK (mulF xss ys) la) e w' := (rvmul_own a b la ca lb cb hs xss ys w ha hb hla hlb).mono fun e w' h => h.gives

theorem mix_step {us row : List Int} {b : Int} : ∀ n, n ≤ row.length → pairK addZ us (row.map (mulZ · b)) n = pairK (fun x y => addZ x (mulZ y b)) us row n := by
  intro n
  induction n with
  | zero => intro _; rfl
  | succ n ih =>
    intro h
    simp only [pairK]
    rw [ih (by omega), List.getElem?_map, List.getElem?_eq_getElem (by omega : n < row.length)]
    rfl
/-- A vector that reads as us, in a slot. -/
def VecAt (us : List Int) (u : Value) (W : World) : Prop := ∃ ad c, u = .slice ad us.length c ∧ Reads .i64 W ad us.length c us

set_option maxHeartbeats 2000000 in
theorem rvmix_any (a b : Option Addr) (la ca lb cb : Nat) (hs : List Hd) (xss : List (List Int)) (ws : List Int) (w : World) (ha : Tbl w a la ca hs xss) (hb : Reads .i64 w b lb cb ws) (hla : la ≤ 1000) (hlb : lb ≤ 1000) (h0 : 0 < la) :
    Calls Tryz.prog 137 #[.slice b lb cb, .slice a la ca] w fun e w' => Gives w (mixK ws xss (min lb la)).length (mixK ws xss (min lb la)) e w' := by
  obtain ⟨b0, o0, rfl, c0⟩ := ha.rd.cell 0 h0
  have hr0 := ha.rows 0 h0
  have hs0 := ha.short 0 h0
  have hcut := rcut_any _ _ _ _ w hr0 hs0
  have HL : Hid ((xss[0]?.getD []).length ≤ 1000) := by unfold Hid; rw [hr0.size]; exact hs0
  have HZ := hid hr0.size
  have HCut := hid fun W (h : Below w.heap.size w W) => rcut_any b lb cb ws W (hb.below h) hlb
  have HSc : Hid (∀ k W, k < la → k < lb → Below w.heap.size w W → Calls Tryz.prog 170 #[.slice (hs[k]?.getD (none, 0, 0)).1 (hs[k]?.getD (none, 0, 0)).2.1 (hs[k]?.getD (none, 0, 0)).2.2, .int .i64 (ws[k]?.getD 0)] W
      fun e w' => Gives W (xss[k]?.getD []).length ((xss[k]?.getD []).map (mulZ · (ws[k]?.getD 0))) e w') := by
    intro k W hk hk' hW
    have h1 := (ha.below hW).rows k hk
    have := rvscale_any _ _ _ _ (ws[k]?.getD 0) W h1 (ha.short k hk)
    rw [← h1.size] at this
    rw [← h1.size]
    exact this
  have HAd : Hid (∀ k W ad c ad2 c2, k < la → Reads .i64 W ad (mixK ws xss k).length c (mixK ws xss k) → Reads .i64 W ad2 (xss[k]?.getD []).length c2 ((xss[k]?.getD []).map (mulZ · (ws[k]?.getD 0))) → Calls Tryz.prog 71 #[.slice ad (mixK ws xss k).length c, .slice ad2 (xss[k]?.getD []).length c2] W
      fun e w' => ∃ u, e = .returned u ∧ VecAt (mixK ws xss (k + 1)) u w' ∧ Below W.heap.size W w') := by
    intro k W ad c ad2 c2 hk h1 h2
    have hl : (xss[k]?.getD []).length ≤ 1000 := by rw [(ha.rows k hk).size]; exact ha.short k hk
    refine (rvadd_any _ _ _ _ _ _ _ _ W h1 h2 (mixK_len HL.out k) hl).mono ?_
    rintro e w' ⟨a', c', e1, hr, hb'⟩
    have hmx : pairK addZ (mixK ws xss k) ((xss[k]?.getD []).map (mulZ · (ws[k]?.getD 0))) (min (mixK ws xss k).length (xss[k]?.getD []).length) = mixK ws xss (k + 1) := mix_step _ (Nat.min_le_right _ _)
    rw [hmx] at hr
    have hsz := hr.size
    rw [← hsz] at e1 hr
    exact ⟨_, e1, ⟨a', c', rfl, hr⟩, hb'⟩
  have HT := hid ha
  have HW0 := hid hb
  have r1 := hb.room
  have m1 := hb.most
  have r2 := ha.rd.room
  have m2 := ha.rd.most
  have qn : ((la : Int) == 0) = false := by simp; omega
  have q0 : (0 : Int) < (la : Int) := by omega
  rw [Nat.add_zero] at c0
  have HLs : Hid (∀ k, k < la → (xss[k]?.getD []).length = (hs[k]?.getD (none, 0, 0)).2.1) := fun k hk => (ha.rows k hk).size
  clear ha hb hr0
  generalize hz0 : hs[0]?.getD (none, 0, 0) = z at *
  obtain ⟨z1, z2, z3⟩ := z
  simp only at c0 hs0 HZ hcut
  have HM0 : Hid (mixK ws xss 0 = List.replicate z2 0) := by unfold mixK; rw [HZ.out]; exact rfl
  have hmk : ∀ W : World, (Instr.makeSlice 131 (.int .i64 (z2 : Int)) (.int .i64 (z2 : Int))).run Tryz.prog W = .ok (.slice (some ⟨W.heap.size, 0, none⟩) z2 z2) (W.alloc (.cells (madeCells #[.int .i64 0] z2) 2)) := fun W => make_ints W z2 (by omega)
  have HV0 : Hid (VecAt (mixK ws xss 0) (.slice (some ⟨w.heap.size, 0, none⟩) z2 z2) (w.alloc (.cells (madeCells #[.int .i64 0] z2) 2))) := by
    rw [HM0.out]
    exact ⟨_, z2, by rw [List.length_replicate], by rw [List.length_replicate]; exact (own_made 2 w z2 (by omega)).reads⟩
  have HB0 : Hid (Below w.heap.size w (w.alloc (.cells (madeCells #[.int .i64 0] z2) 2))) := (Below.refl _ _).alloc (Nat.le_refl _) _
  clear hz0 HZ
  go_enter Tryz.func137, Tryz.ntmps137
  go_wp2_with fail
  refine hcut.mono ?_
  rintro e w' ⟨rfl, rfl⟩
  clear hcut
  rename World => w
  go_wp2_with fail
  clear hmk c0
  go_loopw [5, 6] (fun u i W => ∃ k : Nat, k ≤ min lb la ∧ i = .int .i64 k ∧ Hid (VecAt (mixK ws xss k) u W) ∧ Hid (Below w.heap.size w W)) (fun _ i _ => min lb la - (intOf i).toNat)
  case atStart => exact ⟨0, Nat.zero_le _, rfl, HV0, HB0⟩
  case round =>
    obtain ⟨k, hk, rfl, HV, HW⟩ := hrel
    clear HV0 HB0
    rename World => wr
    have hcw := HCut.out wr HW.out
    by_cases hlt : k < min lb la
    · have hka : k < la := by omega
      have hkb : k < lb := by omega
      have q1 : (k : Int) < (la : Int) := by omega
      have q2 : (k : Int) < (lb : Int) := by omega
      obtain ⟨ad, c, rfl, hrd⟩ := HV.out
      obtain ⟨b2, o2, e2, d2⟩ := (HT.out.rd.below HW.out).cell k hka
      cases e2
      obtain ⟨b1, o1, rfl, d1⟩ := (HW0.out.below HW.out).cell k hkb
      have HSk := hid (HSc.out k wr.drew hka hkb HW.out.drew)
      have HAk := hid fun W ad2 c2 (h : Below wr.heap.size wr W) h2 => HAd.out k W ad c ad2 c2 hka (hrd.below h) h2
      have HK : Hid (∀ W, Below wr.heap.size wr W → W.cell? ⟨b0, o0 + k, none⟩ = some (.slice (hs[k]?.getD (none, 0, 0)).1 (hs[k]?.getD (none, 0, 0)).2.1 (hs[k]?.getD (none, 0, 0)).2.2) ∧ W.cell? ⟨b1, o1 + k, none⟩ = some (.int .i64 (ws[k]?.getD 0))) :=
        fun W h => ⟨(h.cell (World.block_lt_of_cell? _ _ d2)).trans d2, (h.cell (World.block_lt_of_cell? _ _ d1)).trans d1⟩
      have HLk := hid (HLs.out k hka)
      clear HSc HAd HT HW0 HCut HLs HV hrd
      generalize ws[k]?.getD 0 = wk at *
      generalize hs[k]?.getD (none, 0, 0) = y at *
      obtain ⟨y1, y2, y3⟩ := y
      simp only at d2 HSk HK HLk
      have hml := mixK_len (ws := ws) HL.out k
      generalize hM : (mixK ws xss k).length = M at *
      go_wp2_with fail
      refine hcw.mono ?_
      rintro e w' ⟨rfl, rfl⟩
      clear hcw hM
      rename World => wr
      go_wp2_with fail
      go_region_held3 (fun W : World => W.cell? ⟨b0, o0 + k, none⟩ = some (.slice y1 y2 y3) ∧ W.cell? ⟨b1, o1 + k, none⟩ = some (.int .i64 wk)) (first | exact ⟨d2, d1⟩ | assumption | exact HK.out _ HB5.out | exact HK.out _ HB4.out)
        (first | (go_at_call 170; refine HSk.out.mono ?_; rintro e w4 ⟨a4, c4, rfl, hr4, hb4⟩; have HB4 : Hid (Below wr.heap.size wr w4) := (Below.refl _ _).drew.trans (hb4.mono (Nat.le_refl _)); have hA4 := HAk.out w4 a4 c4 HB4.out hr4) | (go_at_call 71; refine hA4.mono ?_; rintro e w5 ⟨u5', rfl, hv5, hb5⟩; have HB5 : Hid (Below wr.heap.size wr w5) := HB4.out.trans (hb5.mono HB4.out.size)))
      have HV5 := hid hv5
      have HB6 := hid (HW.out.trans (HB5.out.mono HW.out.size))
      clear hv5 hb5 hA4 hr4 hb4 HB4 HB5 HK d1 d2 HSk HAk
      go_wp2_with fail
      go_round
      case rel => exact ⟨k + 1, by omega, by go_num, HV5, HB6⟩
      case measure => simp [intOf]; omega
    · have HE : Hid (∃ ad c, u5 = .slice ad (mixK ws xss (min lb la)).length c ∧ Reads .i64 wr ad (mixK ws xss (min lb la)).length c (mixK ws xss (min lb la))) := by
        have e : k = min lb la := by omega
        rw [← e]
        exact HV.out
      obtain ⟨ad, c, rfl, hrd⟩ := HE.out
      have HR := hid hrd
      have hkm : k = min lb la := by omega
      clear HSc HAd HT HW0 HCut HLs HV hrd HE HM0 HL
      rcases Nat.lt_or_ge lb la with hl | hl
      · obtain rfl : k = lb := by omega
        have q1 : (k : Int) < (la : Int) := by omega
        clear hkm hk hlt
        go_wp2_with fail
        refine hcw.mono ?_
        rintro e w' ⟨rfl, rfl⟩
        clear hcw
        go_wp2
        go_ret
        exact ⟨_, _, rfl, HR.out, HW.out⟩
      · obtain rfl : k = la := by omega
        clear hkm hk hlt hcw
        go_wp2
        go_ret
        exact ⟨_, _, rfl, HR.out, HW.out⟩
theorem rvmix_none (a b : Option Addr) (ca lb cb : Nat) (w : World) :
    Calls Tryz.prog 137 #[.slice b lb cb, .slice a 0 ca] w fun e w' => Gives w 0 [] e w' := by
  go_enter Tryz.func137, Tryz.ntmps137
  go_wp2
  go_ret
  exact ⟨_, _, rfl, Reads.nil _ _, Below.refl _ _⟩
end Go.Proofs.YtjgggialnegddaaGreat
