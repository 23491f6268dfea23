/-
  Contract: the document's Read hands back the message of a load, or the error.
-/
import Derived.Test.YtlcfjhlchpeedaaRFlds
import Derived.Test.YtlcfjhlchpeedaaLoad
import Derived.Deep.RegionWith
namespace Go.Proofs.Ytlcfjhlchpeedaa
open Go.RowKit
open M
set_option linter.unusedVariables false
set_option maxRecDepth 1000000

/-- The document's table of letters. -/
def tbl : Array Value := #[.string ⟨#[]⟩, .string ⟨#[115, 101, 106]⟩, .string ⟨#[115, 110]⟩, .string ⟨#[115]⟩, .string ⟨#[115, 110, 108]⟩, .string ⟨#[115, 110, 119]⟩, .string ⟨#[97, 105, 110, 106]⟩, .string ⟨#[97, 105]⟩, .string ⟨#[97, 105, 110, 108]⟩, .string ⟨#[97, 105, 110, 119]⟩, .string ⟨#[110]⟩, .string ⟨#[110, 105, 99]⟩, .string ⟨#[105]⟩]
theorem tbl_at {k : Nat} (h : k ≤ 12) : tbl[k]? = some (.string (strOfNums (lettersF (k : Int)))) := by
  have hk : k = 0 ∨ k = 1 ∨ k = 2 ∨ k = 3 ∨ k = 4 ∨ k = 5 ∨ k = 6 ∨ k = 7 ∨ k = 8 ∨ k = 9 ∨ k = 10 ∨ k = 11 ∨ k = 12 := by omega
  rcases hk with rfl | rfl | rfl | rfl | rfl | rfl | rfl | rfl | rfl | rfl | rfl | rfl | rfl <;> rfl
theorem fields_any (w : World) : Calls Try.prog 27 #[] w fun e w' => ∃ g, e = .returned (.slice (some ⟨g, 0, none⟩) 13 13) ∧ (∀ k : Nat, k ≤ 12 → w'.cell? ⟨g, k, none⟩ = some (.string (strOfNums (lettersF (k : Int))))) ∧ Below w.heap.size w w' := by
  go_enter Try.func27, Try.ntmps27
  go_wp2
  go_ret
  refine ⟨w.heap.size, rfl, fun k hk => ?_, by go_grown⟩
  rw [Joins.cell_of_block (heap_alloc_new w _)]
  exact tbl_at hk

theorem readF_num {zs : List Int} (h : (numF zs 0 18446744073709551615).2.2 ≠ 0) : readF zs = (zeroM 0, (numF zs 0 18446744073709551615).2.2) := by
  have hk : kindF zs = (0, (numF zs 0 18446744073709551615).2) := by unfold kindF; simp [h]
  unfold readF fieldsOfF
  rw [hk]
  simp [lettersF, fieldsF, h]
theorem readF_kind {zs : List Int} (h : (numF zs 0 18446744073709551615).2.2 = 0) (hk : (numF zs 0 18446744073709551615).1 < 1 ∨ 12 < (numF zs 0 18446744073709551615).1) : readF zs = (zeroM 0, 11) := by
  have hk : kindF zs = (0, (numF zs 0 18446744073709551615).2.1, 11) := by unfold kindF; simp [h, hk]
  unfold readF fieldsOfF
  rw [hk]
  simp [lettersF, fieldsF]
theorem readF_fields {zs : List Int} (h : (numF zs 0 18446744073709551615).2.2 = 0) (hk : ¬ ((numF zs 0 18446744073709551615).1 < 1 ∨ 12 < (numF zs 0 18446744073709551615).1)) :
    fieldsOfF zs = fieldsF (lettersF (numF zs 0 18446744073709551615).1) (zeroM (numF zs 0 18446744073709551615).1) (numF zs 0 18446744073709551615).2.1 0 := by
  have hk : kindF zs = numF zs 0 18446744073709551615 := by unfold kindF; simp only [h]; simp [hk]
  unfold fieldsOfF
  rw [hk, h]

theorem drew_heap (w : World) : w.drew.heap = w.heap := rfl
theorem But.drew {S : List Nat} {a b : World} (h : But S a b) : But S a b.drew := ⟨h.os, h.tape, h.output, h.size, h.block⟩
theorem fieldF_snd {m M : Mg} {zs : List Int} {e c : Int} (hc : Letter c) : (fieldF m zs e c).2 = (fieldF M zs e c).2 := by
  rcases hc with rfl | rfl | rfl | rfl | rfl | rfl | rfl | rfl | rfl <;> rfl
theorem field_err {m : Mg} {zs : List Int} {e c : Int} (hc : Letter c) (hz : IsBytes zs) (h : (fieldF m zs e c).2.2 = 0) : e = 0 := by
  rcases hc with rfl | rfl | rfl | rfl | rfl | rfl | rfl | rfl | rfl
  iterate 6 exact (numF_ok (most := 18446744073709551615) hz h).1
  · exact (numF_ok (most := 255) hz h).1
  · have hz1 := (numF_bd hz e (most := 18446744073709551615) (by omega)).2.1
    have hz2 := (numF_bd hz1 (numF zs e 18446744073709551615).2.2 (most := 256) (by omega)).2.1
    exact (numF_ok (most := 18446744073709551615) hz (numF_ok (most := 256) hz1 (listF_ok hz2 h).1).1).1
  · exact (listF_ok hz h).1

set_option maxHeartbeats 4000000 in
theorem rread_any (a : Option Addr) (l c : Nat) (zs : List Int) (w : World) (hr : Reads .u8 w a l c zs) (hz : IsBytes zs) (hl : l ≤ 100000) :
    Calls Try.prog 20 #[.slice a l c] w fun x w' => ReadOut (readF zs) w x w' := by
  have hlow : 0 < l → ∃ b off, a = some ⟨b, off, none⟩ ∧ b < w.heap.size := fun h0 => by
    obtain ⟨b, off, ha, hc⟩ := hr.cell 0 h0
    exact ⟨b, off, ha, World.block_lt_of_cell? _ _ hc⟩
  obtain ⟨hbA, hA0, hA1⟩ := two_blocks w (.cells (MV (zeroM 0) ⟨none, 0, 0⟩ ⟨none, 0, 0⟩) 27) (.cells #[.slice a l c, .int .i64 0] 73)
  have hrd : RdAt 73 (w.heap.size + 1) w.heap.size zs 0 _ := ⟨a, l, c, hA1, hr.below hbA, hlow, hz, hl⟩
  have hN := rnum_any (w.heap.size + 1) w.heap.size zs 0 18446744073709551615 _ hrd (by omega) (by omega) (by omega)
  obtain ⟨⟨n0, n1⟩, _, _⟩ := numF_bd hz 0 (most := 18446744073709551615) (by omega)
  have HRN := hid (@readF_num zs)
  have HRK := hid (@readF_kind zs)
  have HRF := hid (@readF_fields zs)
  have HRead : Hid (readF zs = if (fieldsOfF zs).2.2 ≠ 0 then (zeroM 0, (fieldsOfF zs).2.2) else if (fieldsOfF zs).2.1 ≠ [] then (zeroM 0, 3) else ((fieldsOfF zs).1, 0)) := rfl
  generalize numF zs 0 18446744073709551615 = r at *
  obtain ⟨n, zs1, e1⟩ := r
  simp only at *
  have hsA : ((w.alloc (.cells (MV (zeroM 0) ⟨none, 0, 0⟩ ⟨none, 0, 0⟩) 27)).alloc (.cells #[.slice a l c, .int .i64 0] 73)).heap.size = w.heap.size + 2 := by simp
  rw [MV_zero] at hN hA0 hbA hsA
  have HA0 := hid hA0
  have HBA := hid hbA
  have HSA := hid hsA
  clear hr hz hlow hA0 hA1 hbA hrd hsA
  go_enter Try.func20, Try.ntmps20
  go_wp2_with fail
  refine hN.mono ?_
  rintro x w1 ⟨rfl, hrd1, hbt1⟩
  simp only at hrd1
  have hsA' := HSA.out
  have hs1 := hbt1.size
  rw [hsA'] at hs1
  have HC1 : Hid (w1.heap[w.heap.size]? = some (.cells (MV (zeroM 0) ⟨none, 0, 0⟩ ⟨none, 0, 0⟩) 27)) := (hbt1.block w.heap.size (by rw [hsA']; omega) (by simp)).trans HA0.out
  have HB1 : Hid (Below w.heap.size w w1) := HBA.out.trans (hbt1.to (by simp) (by rw [hsA']; omega))
  have HR1 := hid hrd1
  obtain ⟨ca, cl, cc, hblk, _⟩ := id hrd1
  obtain ⟨b0, b1, f0, f1⟩ := rd_cells hblk
  clear hN hrd1 hbt1 hsA' HSA HA0 HBA hblk
  by_cases he : e1 = 0
  · subst he
    rcases (by omega : n < 1 ∨ 12 < n ∨ (1 ≤ n ∧ n ≤ 12)) with hn | hn | hn
    · have HQ := hid (HRK.out rfl (.inl hn))
      obtain ⟨z0, z1, z2, z3, z4, z5, z6, z7, z8, z9, z10, z11⟩ := MV_cells HC1.out
      simp only [zeroM] at z0 z1 z2 z3 z4 z5 z6 z7 z8 z9 z10 z11
      have hfz := fun j => Joins.unfrozen_of_block HC1.out j
      go_wp2_with fail
      change bodyPost _ _ _ _ _ (setMsg w1 w.heap.size (zeroM 0) ⟨none, 0, 0⟩ ⟨none, 0, 0⟩)
      have hb9 : (setMsg w1 w.heap.size (zeroM 0) ⟨none, 0, 0⟩ ⟨none, 0, 0⟩).heap[w.heap.size]? = _ := setMsg_block (m := (zeroM 0)) (p := ⟨none, 0, 0⟩) (q := ⟨none, 0, 0⟩) HC1.out
      have hbt9 : But [w.heap.size] w1 (setMsg w1 w.heap.size (zeroM 0) ⟨none, 0, 0⟩ ⟨none, 0, 0⟩) := setMsg_but _ _ _ _ _
      clear z0 z1 z2 z3 z4 z5 z6 z7 z8 z9 z10 z11 hfz b0 b1 f0 f1
      generalize (setMsg w1 w.heap.size (zeroM 0) ⟨none, 0, 0⟩ ⟨none, 0, 0⟩) = w9 at *
      obtain ⟨g0, g1, g2, g3, g4, g5, g6, g7, g8, g9, g10, g11⟩ := MV_cells hb9
      refine bodyPost_ret (v := .tuple #[.agg (MV (zeroM 0) ⟨none, 0, 0⟩ ⟨none, 0, 0⟩), .int .i64 11]) (by simp [results, Try.results20, go_sem, MV, *]) rfl ?_
      rw [HQ.out]
      exact ⟨⟨none, 0, 0⟩, ⟨none, 0, 0⟩, rfl, zero_in _ 0, HB1.out.trans (hbt9.to (by simp) HB1.out.size), zero_own _ _ 0⟩
    · have HQ := hid (HRK.out rfl (.inr hn))
      have hd : decide (n < 1) = false := by simp; omega
      obtain ⟨z0, z1, z2, z3, z4, z5, z6, z7, z8, z9, z10, z11⟩ := MV_cells HC1.out
      simp only [zeroM] at z0 z1 z2 z3 z4 z5 z6 z7 z8 z9 z10 z11
      have hfz := fun j => Joins.unfrozen_of_block HC1.out j
      go_wp2_with fail
      change bodyPost _ _ _ _ _ (setMsg w1 w.heap.size (zeroM 0) ⟨none, 0, 0⟩ ⟨none, 0, 0⟩)
      have hb9 : (setMsg w1 w.heap.size (zeroM 0) ⟨none, 0, 0⟩ ⟨none, 0, 0⟩).heap[w.heap.size]? = _ := setMsg_block (m := (zeroM 0)) (p := ⟨none, 0, 0⟩) (q := ⟨none, 0, 0⟩) HC1.out
      have hbt9 : But [w.heap.size] w1 (setMsg w1 w.heap.size (zeroM 0) ⟨none, 0, 0⟩ ⟨none, 0, 0⟩) := setMsg_but _ _ _ _ _
      clear z0 z1 z2 z3 z4 z5 z6 z7 z8 z9 z10 z11 hfz b0 b1 f0 f1
      generalize (setMsg w1 w.heap.size (zeroM 0) ⟨none, 0, 0⟩ ⟨none, 0, 0⟩) = w9 at *
      obtain ⟨g0, g1, g2, g3, g4, g5, g6, g7, g8, g9, g10, g11⟩ := MV_cells hb9
      refine bodyPost_ret (v := .tuple #[.agg (MV (zeroM 0) ⟨none, 0, 0⟩ ⟨none, 0, 0⟩), .int .i64 11]) (by simp [results, Try.results20, go_sem, MV, *]) rfl ?_
      rw [HQ.out]
      exact ⟨⟨none, 0, 0⟩, ⟨none, 0, 0⟩, rfl, zero_in _ 0, HB1.out.trans (hbt9.to (by simp) HB1.out.size), zero_own _ _ 0⟩
    · have HQ := hid (HRF.out rfl (by omega))
      have hd : decide (n < 1) = false := by simp; omega
      obtain ⟨k, rfl⟩ := Int.eq_ofNat_of_zero_le n0
      have hS0 : (w1.alloc (.cells #[.int .i64 (k : Int), .int .u64 0, .int .u64 0, .int .u64 0, .int .u64 0, .int .u64 0, .int .u64 0, .int .i64 0, .int .u64 0, .slice none 0 0, .int .i64 0, .slice none 0 0] 27)).cell? ⟨w1.heap.size, 0, none⟩ = some (.int .i64 (k : Int)) := by simp
      have HBM : Hid (Below w1.heap.size w1 (w1.alloc (.cells #[.int .i64 (k : Int), .int .u64 0, .int .u64 0, .int .u64 0, .int .u64 0, .int .u64 0, .int .u64 0, .int .i64 0, .int .u64 0, .slice none 0 0, .int .i64 0, .slice none 0 0] 27))) := by unfold Hid; go_grown
      have HCM : Hid ((w1.alloc (.cells #[.int .i64 (k : Int), .int .u64 0, .int .u64 0, .int .u64 0, .int .u64 0, .int .u64 0, .int .u64 0, .int .i64 0, .int .u64 0, .slice none 0 0, .int .i64 0, .slice none 0 0] 27)).heap[w1.heap.size]? = some (.cells (MV (zeroM k) ⟨none, 0, 0⟩ ⟨none, 0, 0⟩) 27)) := heap_alloc_new w1 _
      go_wp2_with fail
      clear b0 b1 f0 f1
      go_region_with (first | (go_at_call 27; refine (fields_any _).mono ?_; rintro x w2 ⟨g, rfl, hcl, hb2⟩; have hck := hcl k (by omega); have hS2 : w2.cell? ⟨w1.heap.size, 0, none⟩ = some (.int .i64 (k : Int)) := (hb2.cell (by go_size)).trans hS0))
      all_goals
        have HBN : Hid (Below w1.heap.size w1 w2) := HBM.out.trans ((Below.drew (Below.refl _ _) |>.trans hb2).mono (by go_size))
        have HCN : Hid (w2.heap[w1.heap.size]? = some (.cells (MV (zeroM k) ⟨none, 0, 0⟩ ⟨none, 0, 0⟩) 27)) := (hb2.block _ (by go_size)).trans HCM.out
        have HB2 := hid (HB1.out.trans (HBN.out.mono (by omega)))
        have HC2 := hid ((HBN.out.block w.heap.size (by omega)).trans HC1.out)
        have HR2 := hid (HR1.out.below HBN.out (by omega) (by omega))
        have hs2 : w1.heap.size + 1 ≤ w2.heap.size := by have := (Array.getElem?_eq_some_iff.1 HCN.out).1; omega
        obtain ⟨L, HLL⟩ : ∃ L, Hid (L = lettersF (k : Int)) := ⟨_, rfl⟩
        rw [← HLL.out]
        have HLet : Hid (∀ c ∈ L, Letter c) := by unfold Hid; rw [HLL.out]; exact lettersF_ok _
        have HT2 : Hid (fieldsOfF zs = fieldsF (L.drop 0) (zeroM k) zs1 0) := by unfold Hid; rw [HQ.out, HLL.out]; rfl
        have hss := strOfNums_size L
        have hl4 : L.length ≤ 4 := by rw [HLL.out]; exact lettersF_len _
        clear hck hcl hb2 hS0 hS2 HBM HCM HBN HB1 HC1 HR1 HLL HQ HRN HRK HRF
        go_wp2_with fail
        go_loopw [8] (fun iv wr => ∃ (j : Nat) (m M : Mg) (p q : Sl) (zs' : List Int) (e' : Int), j ≤ L.length ∧ iv = .int .i64 j ∧ wr.heap[w1.heap.size]? = some (.cells (MV m p q) 27) ∧ MsgOwn (w1.heap.size + 1) wr m p q ∧ RdAt 73 (w.heap.size + 1) w.heap.size zs' e' wr ∧ wr.heap[w.heap.size]? = some (.cells (MV (zeroM 0) ⟨none, 0, 0⟩ ⟨none, 0, 0⟩) 27) ∧ Below w.heap.size w wr ∧ w1.heap.size + 1 ≤ wr.heap.size ∧ Hid (fieldsOfF zs = fieldsF (L.drop j) M zs' e') ∧ Hid (e' = 0 → m = M)) (fun iv _ => L.length - (intOf iv).toNat)
        case atStart => exact ⟨0, zeroM k, zeroM k, ⟨none, 0, 0⟩, ⟨none, 0, 0⟩, zs1, 0, by omega, rfl, HCN.out, zero_own _ _ _, HR2.out, HC2.out, HB2.out, hs2, HT2.out, fun _ => rfl⟩
        case round =>
          obtain ⟨j, m, M, p, q, zs', e', hj, rfl, hmb, hown, hrd, hres, hbel, hsz, HI, HMM⟩ := hrel
          clear HCN HR2 HC2 HB2 HT2
          by_cases hlt : j < L.length
          · obtain ⟨c, hc⟩ : ∃ c, L[j]? = some c := ⟨_, List.getElem?_eq_getElem hlt⟩
            have hlet := HLet.out c (List.mem_of_getElem? hc)
            have HJ : Hid (fieldsOfF zs = fieldsF (L.drop (j + 1)) (fieldF M zs' e' c).1 (fieldF m zs' e' c).2.1 (fieldF m zs' e' c).2.2) := by
              unfold Hid; rw [HI.out, fieldsF_drop hc, fieldF_snd (m := m) (M := M) hlet]
            have HE2 : Hid ((fieldF m zs' e' c).2.2 = 0 → (fieldF m zs' e' c).1 = (fieldF M zs' e' c).1) := fun h => by rw [HMM.out (field_err hlet hrd.bytes h)]
            have hix := fun W => index_letter (P := Try.prog) 9 W Try.underlying9 hc hlet
            have HFF : Hid (∀ W, But [] wr W → Calls Try.prog 43 #[.pointer (some ⟨w.heap.size + 1, 0, none⟩), .agg (MV m p q), .int .u8 c] W fun x w' => RFielded (w.heap.size + 1) w.heap.size (w1.heap.size + 1) (fieldF m zs' e' c) W x w') := fun W hb => rfield_any (w.heap.size + 1) w.heap.size (w1.heap.size + 1) m p q zs' e' c hlet W (hrd.but hb (by simp) (by simp) (by omega)) (hown.but hb (by simp)) (by omega) (by omega) (Nat.le_trans hsz hb.size)
            have HRes := hid hres
            have HMB := hid hmb
            have HBel := hid hbel
            obtain ⟨c0, c1, c2, c3, c4, c5, c6, c7, c8, c9, c10, c11⟩ := MV_cells hmb
            generalize fieldF m zs' e' c = r at *
            obtain ⟨m3, zs3, e3⟩ := r
            generalize (fieldF M zs' e' c).1 = M3 at *
            simp only at *
            unfold RFielded MV at HFF
            clear hrd hown hres hmb hbel HI HMM hc hlet HLet
            go_wp2_with fail
            go_region_with (first | (go_at_call 43; refine (HFF.out _ (But.refl [] wr).drew).mono ?_; rintro x w4 ⟨m4, p4, q4, rfl, hrd4, hown4, hbt4, hm4⟩; have hblk4 := (hbt4.block w1.heap.size (by show _ < wr.heap.size; omega) (by simp; omega)).trans HMB.out; obtain ⟨k0', k1', k2', k3', k4', k5', k6', k7', k8', k9', k10', k11'⟩ := MV_cells hblk4; have hfr := fun j => Joins.unfrozen_of_block hblk4 j))
            all_goals
              go_wp2_with fail
              go_roundw
              case rel =>
                have hbt9 := setMsg_but w4 w1.heap.size m4 p4 q4
                have hs4 : wr.heap.size ≤ w4.heap.size := hbt4.size
                have hres4 : w4.heap[w.heap.size]? = _ := (hbt4.block w.heap.size (by show _ < wr.heap.size; omega) (by simp)).trans HRes.out
                have hbel4 : Below w.heap.size w w4 := HBel.out.drew.trans (hbt4.to (by simp) HBel.out.size)
                exact ⟨j + 1, m4, M3, p4, q4, zs3, e3, by omega, by go_num, setMsg_block hblk4, MsgOwn.but hown4 hbt9 (by simp), hrd4.but hbt9 (by simp; omega) (by simp; omega) (by omega), (hbt9.block w.heap.size (by omega) (by simp; omega)).trans hres4, hbel4.trans (hbt9.to (by simp; omega) hbel4.size), Nat.le_trans (Nat.le_trans hsz hs4) hbt9.size, HJ.out, fun h => (hm4 h).trans (HE2.out h)⟩
              case measure => simp [intOf]; omega
          · have HQ : Hid (fieldsOfF zs = (M, zs', e')) := by unfold Hid; rw [HI.out, List.drop_of_length_le (by omega), fieldsF]
            obtain ⟨ca, cl, cc, hblk, hrr, _⟩ := id hrd
            obtain ⟨b0, b1, f0, f1⟩ := rd_cells hblk
            have hcl := hrr.size
            have HRes := hid hres
            have HBel := hid hbel
            have HOwn := hid hown
            clear hblk hrr hrd HI HLet
            by_cases he' : e' = 0
            · subst he'
              by_cases hze : zs' = []
              · obtain rfl := HMM.out rfl
                have HF : Hid (readF zs = (m, 0)) := by unfold Hid; rw [HRead.out, HQ.out]; simp [hze]
                obtain rfl : cl = 0 := by rw [hze] at hcl; simpa using hcl.symm
                obtain ⟨c0, c1, c2, c3, c4, c5, c6, c7, c8, c9, c10, c11⟩ := MV_cells hmb
                obtain ⟨z0, z1, z2, z3, z4, z5, z6, z7, z8, z9, z10, z11⟩ := MV_cells HRes.out
                simp only [zeroM] at z0 z1 z2 z3 z4 z5 z6 z7 z8 z9 z10 z11
                have hfz := fun j => Joins.unfrozen_of_block HRes.out j
                clear hmb hres hbel hown hcl HQ
                go_wp2_with fail
                change bodyPost _ _ _ _ _ (setMsg wr w.heap.size m p q)
                have hb9 : (setMsg wr w.heap.size m p q).heap[w.heap.size]? = some (.cells (MV m p q) 27) := (by exact setMsg_block (m := m) (p := p) (q := q) HRes.out)
                have hbt9 : But [w.heap.size] wr (setMsg wr w.heap.size m p q) := setMsg_but _ _ _ _ _
                clear z0 z1 z2 z3 z4 z5 z6 z7 z8 z9 z10 z11 hfz b0 b1 f0 f1 c0 c1 c2 c3 c4 c5 c6 c7 c8 c9 c10 c11
                generalize (setMsg wr w.heap.size m p q) = w9 at *
                obtain ⟨g0, g1, g2, g3, g4, g5, g6, g7, g8, g9, g10, g11⟩ := MV_cells hb9
                refine bodyPost_ret (v := .tuple #[.agg (MV m p q), .int .i64 0]) (by simp [results, Try.results20, go_sem, MV, *]) rfl ?_
                rw [HF.out]
                exact ⟨p, q, rfl, (HOwn.out.but hbt9 (by simp; omega)).in, HBel.out.trans (hbt9.to (by simp) HBel.out.size), (HOwn.out.but hbt9 (by simp; omega)).low (by omega)⟩
              · have HF : Hid (readF zs = (zeroM 0, 3)) := by unfold Hid; rw [HRead.out, HQ.out]; simp [hze]
                have hcp : 0 < cl := by
                  rcases Nat.eq_zero_or_pos cl with h0 | h0
                  · rw [h0] at hcl; exact absurd (List.eq_nil_of_length_eq_zero hcl) hze
                  · exact h0
                obtain ⟨z0, z1, z2, z3, z4, z5, z6, z7, z8, z9, z10, z11⟩ := MV_cells HRes.out
                simp only [zeroM] at z0 z1 z2 z3 z4 z5 z6 z7 z8 z9 z10 z11
                have hfz := fun j => Joins.unfrozen_of_block HRes.out j
                clear hmb hres hbel hown hcl HQ
                go_wp2_with fail
                change bodyPost _ _ _ _ _ (setMsg wr w.heap.size (zeroM 0) ⟨none, 0, 0⟩ ⟨none, 0, 0⟩)
                have hb9 : (setMsg wr w.heap.size (zeroM 0) ⟨none, 0, 0⟩ ⟨none, 0, 0⟩).heap[w.heap.size]? = some (.cells (MV (zeroM 0) ⟨none, 0, 0⟩ ⟨none, 0, 0⟩) 27) := (by exact setMsg_block (m := (zeroM 0)) (p := ⟨none, 0, 0⟩) (q := ⟨none, 0, 0⟩) HRes.out)
                have hbt9 : But [w.heap.size] wr (setMsg wr w.heap.size (zeroM 0) ⟨none, 0, 0⟩ ⟨none, 0, 0⟩) := setMsg_but _ _ _ _ _
                clear z0 z1 z2 z3 z4 z5 z6 z7 z8 z9 z10 z11 hfz b0 b1 f0 f1
                generalize (setMsg wr w.heap.size (zeroM 0) ⟨none, 0, 0⟩ ⟨none, 0, 0⟩) = w9 at *
                obtain ⟨g0, g1, g2, g3, g4, g5, g6, g7, g8, g9, g10, g11⟩ := MV_cells hb9
                refine bodyPost_ret (v := .tuple #[.agg (MV (zeroM 0) ⟨none, 0, 0⟩ ⟨none, 0, 0⟩), .int .i64 3]) (by simp [results, Try.results20, go_sem, MV, *]) rfl ?_
                rw [HF.out]
                exact ⟨⟨none, 0, 0⟩, ⟨none, 0, 0⟩, rfl, zero_in _ 0, HBel.out.trans (hbt9.to (by simp) HBel.out.size), zero_own _ _ 0⟩
            · have HF : Hid (readF zs = (zeroM 0, e')) := by unfold Hid; rw [HRead.out, HQ.out]; simp [he']
              obtain ⟨z0, z1, z2, z3, z4, z5, z6, z7, z8, z9, z10, z11⟩ := MV_cells HRes.out
              simp only [zeroM] at z0 z1 z2 z3 z4 z5 z6 z7 z8 z9 z10 z11
              have hfz := fun j => Joins.unfrozen_of_block HRes.out j
              clear hmb hres hbel hown hcl HQ
              go_wp2_with fail
              go_region
              go_wp2_with fail
              change bodyPost _ _ _ _ _ (setMsg wr w.heap.size (zeroM 0) ⟨none, 0, 0⟩ ⟨none, 0, 0⟩).drew
              have hb9 : (setMsg wr w.heap.size (zeroM 0) ⟨none, 0, 0⟩ ⟨none, 0, 0⟩).drew.heap[w.heap.size]? = some (.cells (MV (zeroM 0) ⟨none, 0, 0⟩ ⟨none, 0, 0⟩) 27) := (by rw [drew_heap]; exact setMsg_block (m := (zeroM 0)) (p := ⟨none, 0, 0⟩) (q := ⟨none, 0, 0⟩) HRes.out)
              have hbt9 : But [w.heap.size] wr (setMsg wr w.heap.size (zeroM 0) ⟨none, 0, 0⟩ ⟨none, 0, 0⟩).drew := (setMsg_but _ _ _ _ _).drew
              clear z0 z1 z2 z3 z4 z5 z6 z7 z8 z9 z10 z11 hfz b0 b1 f0 f1
              generalize (setMsg wr w.heap.size (zeroM 0) ⟨none, 0, 0⟩ ⟨none, 0, 0⟩).drew = w9 at *
              obtain ⟨g0, g1, g2, g3, g4, g5, g6, g7, g8, g9, g10, g11⟩ := MV_cells hb9
              refine bodyPost_ret (v := .tuple #[.agg (MV (zeroM 0) ⟨none, 0, 0⟩ ⟨none, 0, 0⟩), .int .i64 e']) (by simp [results, Try.results20, go_sem, MV, *]) rfl ?_
              rw [HF.out]
              exact ⟨⟨none, 0, 0⟩, ⟨none, 0, 0⟩, rfl, zero_in _ 0, HBel.out.trans (hbt9.to (by simp) HBel.out.size), zero_own _ _ 0⟩
  · have HQ := hid (HRN.out he)
    obtain ⟨z0, z1, z2, z3, z4, z5, z6, z7, z8, z9, z10, z11⟩ := MV_cells HC1.out
    simp only [zeroM] at z0 z1 z2 z3 z4 z5 z6 z7 z8 z9 z10 z11
    have hfz := fun j => Joins.unfrozen_of_block HC1.out j
    go_wp2_with fail
    go_region
    go_wp2_with fail
    change bodyPost _ _ _ _ _ (setMsg w1 w.heap.size (zeroM 0) ⟨none, 0, 0⟩ ⟨none, 0, 0⟩).drew
    have hb9 : (setMsg w1 w.heap.size (zeroM 0) ⟨none, 0, 0⟩ ⟨none, 0, 0⟩).drew.heap[w.heap.size]? = some (.cells (MV (zeroM 0) ⟨none, 0, 0⟩ ⟨none, 0, 0⟩) 27) := (by rw [drew_heap]; exact setMsg_block (m := (zeroM 0)) (p := ⟨none, 0, 0⟩) (q := ⟨none, 0, 0⟩) HC1.out)
    have hbt9 : But [w.heap.size] w1 (setMsg w1 w.heap.size (zeroM 0) ⟨none, 0, 0⟩ ⟨none, 0, 0⟩).drew := (setMsg_but _ _ _ _ _).drew
    clear z0 z1 z2 z3 z4 z5 z6 z7 z8 z9 z10 z11 hfz b0 b1 f0 f1
    generalize (setMsg w1 w.heap.size (zeroM 0) ⟨none, 0, 0⟩ ⟨none, 0, 0⟩).drew = w9 at *
    obtain ⟨g0, g1, g2, g3, g4, g5, g6, g7, g8, g9, g10, g11⟩ := MV_cells hb9
    refine bodyPost_ret (v := .tuple #[.agg (MV (zeroM 0) ⟨none, 0, 0⟩ ⟨none, 0, 0⟩), .int .i64 e1]) (by simp [results, Try.results20, go_sem, MV, *]) rfl ?_
    rw [HQ.out]
    exact ⟨⟨none, 0, 0⟩, ⟨none, 0, 0⟩, rfl, zero_in _ 0, HB1.out.trans (hbt9.to (by simp) HB1.out.size), zero_own _ _ 0⟩

end Go.Proofs.Ytlcfjhlchpeedaa
