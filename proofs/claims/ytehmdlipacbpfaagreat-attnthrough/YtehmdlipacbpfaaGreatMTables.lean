/-
  Contract: Rows of a model, a layer's table that is there.
-/
import Derived.Test.YtehmdlipacbpfaaGreatModels
namespace Go.Proofs.YtehmdlipacbpfaaGreat
open Go.RowKit
set_option linter.unusedVariables false
set_option maxRecDepth 1000000

theorem wrap_in {n : Int} (h0 : -9223372036854775808 ≤ n) (h1 : n ≤ 9223372036854775807) : IntKind.i64.wrap n = n := by
  rw [IntKind.wrap_i64]; omega
theorem rows_yes (p : Option Addr) (s v l tt h la wh : Int) (D : Nat) (w : World) (hp : MdAt w p ⟨s, v, D, l, tt, h⟩) (l0 : 0 ≤ la) (l1 : la < l) (l2 : l ≤ 4) (k0 : 0 ≤ wh) (k1 : wh ≤ 5) (hD : D ≤ 16) :
    Calls Tryz.prog 25 #[.pointer p, .int .i64 la, .int .i64 wh] w fun e w' => MadeT w D D (fun r => rowK (fun k => weightZ s (2 + 6 * la + wh) r k) D) e w' := by
  have hC := config_any p _ w hp
  have HT := hid fun W => tableof_any ⟨s, v, D, l, tt, h⟩ (2 + 6 * la + wh) W (by omega) (by omega)
  have HR := hid fun W => makerows_any 48 (.agg #[.int .u64 (deriveZ s [2 + 6 * la + wh])]) (enters_of Tryz.func48 (by kernel_rfl) rfl) D D W (by omega) (by omega) (fun r k => weightZ s (2 + 6 * la + wh) r k) fun r k wr hr hk hb => weight_any s _ r k wr (by omega) (by omega) (by omega) (by omega)
  generalize (fun r : Nat => rowK (fun k => weightZ s (2 + 6 * la + wh) r k) D) = F at *
  clear hp
  unfold CfV at hC HT
  simp only at hC HT
  generalize deriveZ s [2 + 6 * la + wh] = x at *
  have hw : 2 + 6 * la + wh = IntKind.i64.wrap (IntKind.i64.wrap (2 + IntKind.i64.wrap (6 * la)) + wh) := by
    rw [wrap_in (n := 6 * la) (by omega) (by omega), wrap_in (n := 2 + 6 * la) (by omega) (by omega), wrap_in (by omega) (by omega)]
  rw [hw] at HT
  clear hw
  have hb1 : btw la 0 (l - 1) = true := btw_iff.2 (by omega)
  have hb2 : btw wh 0 5 = true := btw_iff.2 (by omega)
  go_enter Tryz.func25, Tryz.ntmps25
  go_wp2_with fail
  refine hC.mono ?_
  rintro e w1 ⟨rfl, hbl⟩
  have HB1 := hid hbl
  have HN : Hid ((w1.alloc (.cells (CfV ⟨s, v, D, l, tt, h⟩) 24)).heap[w1.heap.size]? = some (.cells (CfV ⟨s, v, D, l, tt, h⟩) 24)) := heap_alloc_new w1 _
  have HK := hid (Cf_cells HN.out)
  unfold CfV at HK
  simp only at HK
  clear hbl hC HN
  go_wp2_with fail
  refine (mbetween_any _ _ _ _).mono ?_
  rintro e w' ⟨rfl, rfl⟩
  rw [hb1]
  go_wp2_with fail
  refine (mbetween_any _ _ _ _).mono ?_
  rintro e w' ⟨rfl, rfl⟩
  rw [hb2]
  have HB2 : Hid (Below w.heap.size w (w1.alloc (.cells #[.int .u64 s, .int .i64 v, .int .i64 D, .int .i64 l, .int .i64 tt, .int .i64 h] 24))) := HB1.out.alloc HB1.out.size _
  generalize hW : w1.alloc (.cells #[.int .u64 s, .int .i64 v, .int .i64 D, .int .i64 l, .int .i64 tt, .int .i64 h] 24) = W2 at *
  clear hW HB1
  go_wp2_with fail
  go_region_held3 (fun W : World => W.cell? ⟨w1.heap.size, 0, none⟩ = some (.int .u64 s) ∧ W.cell? ⟨w1.heap.size, 1, none⟩ = some (.int .i64 v) ∧ W.cell? ⟨w1.heap.size, 2, none⟩ = some (.int .i64 D) ∧ W.cell? ⟨w1.heap.size, 3, none⟩ = some (.int .i64 l) ∧ W.cell? ⟨w1.heap.size, 4, none⟩ = some (.int .i64 tt) ∧ W.cell? ⟨w1.heap.size, 5, none⟩ = some (.int .i64 h))
    (first | exact HK.out | exact Cf_keep hb4 (by assumption) | exact Cf_keep hb3 (by assumption))
    (first | (go_at_call 47; refine (HT.out _).mono ?_; rintro e w3 ⟨rfl, hb3⟩) | (go_at_call 62; refine (HR.out _).mono ?_; rintro e w4 ⟨G, hs, rfl, hU⟩; have hb4 := hU.old))
  have HB3 := hid (HB2.out.drew.trans (hb3.mono HB2.out.size))
  have HU := hid (hU.low HB3.out)
  clear hU hb3 hb4 HB2 HB3 HT HR HK
  go_wp2
  go_ret
  exact ⟨_, _, rfl, HU.out⟩
end Go.Proofs.YtehmdlipacbpfaaGreat
