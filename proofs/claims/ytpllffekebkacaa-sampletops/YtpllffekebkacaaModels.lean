/-
  Contracts: Token, Place and Rows of a model.
-/
import Derived.Test.YtpllffekebkacaaMrows
import Derived.Deep.DeepCutAuto
namespace Go.Proofs.Ytpllffekebkacaa
open Go.RowKit
set_option linter.unusedVariables false
set_option maxRecDepth 1000000

/-- What a configuration's block holds, behind a call. -/
theorem Cf_keep {W W' : World} {g : Nat} {v0 v1 v2 v3 v4 v5 : Value} (hb : Below W.heap.size W W')
    (h : W.cell? ⟨g, 0, none⟩ = some v0 ∧ W.cell? ⟨g, 1, none⟩ = some v1 ∧ W.cell? ⟨g, 2, none⟩ = some v2 ∧ W.cell? ⟨g, 3, none⟩ = some v3 ∧ W.cell? ⟨g, 4, none⟩ = some v4 ∧ W.cell? ⟨g, 5, none⟩ = some v5) :
    W'.cell? ⟨g, 0, none⟩ = some v0 ∧ W'.cell? ⟨g, 1, none⟩ = some v1 ∧ W'.cell? ⟨g, 2, none⟩ = some v2 ∧ W'.cell? ⟨g, 3, none⟩ = some v3 ∧ W'.cell? ⟨g, 4, none⟩ = some v4 ∧ W'.cell? ⟨g, 5, none⟩ = some v5 :=
  ⟨(hb.cell (World.block_lt_of_cell? _ _ h.1)).trans h.1, (hb.cell (World.block_lt_of_cell? _ _ h.2.1)).trans h.2.1, (hb.cell (World.block_lt_of_cell? _ _ h.2.2.1)).trans h.2.2.1, (hb.cell (World.block_lt_of_cell? _ _ h.2.2.2.1)).trans h.2.2.2.1, (hb.cell (World.block_lt_of_cell? _ _ h.2.2.2.2.1)).trans h.2.2.2.2.1, (hb.cell (World.block_lt_of_cell? _ _ h.2.2.2.2.2)).trans h.2.2.2.2.2⟩
theorem token_no (p : Option Addr) (c : Cf) (t : Int) (w : World) (hp : MdAt w p c) (hb : t < 0 ∨ c.vocab ≤ t) (v0 : 0 ≤ c.vocab) (v1 : c.vocab ≤ 64) :
    Calls Try.prog 38 #[.pointer p, .int .i64 t] w fun e w' => e = .returned (.slice none 0 0) ∧ Below w.heap.size w w' := by
  have hC := config_any p c w hp
  obtain ⟨s, v, d, l, tt, h⟩ := c
  clear hp
  unfold CfV at hC
  simp only at hC hb v0 v1
  have hb : btw t 0 (v - 1) = false := btw_no.2 (by omega)
  go_enter Try.func38, Try.ntmps38
  go_wp2_with fail
  refine hC.mono ?_
  rintro e w1 ⟨rfl, hb1⟩
  have HB1 := hid hb1
  clear hb1 hC
  go_wp2_with fail
  refine (mbetween_any _ _ _ _).mono ?_
  rintro e w' ⟨rfl, rfl⟩
  rw [hb]
  go_wp2
  go_ret
  exact ⟨rfl, HB1.out.alloc HB1.out.size _⟩
theorem token_yes (p : Option Addr) (s v l tt h t : Int) (D : Nat) (w : World) (hp : MdAt w p ⟨s, v, D, l, tt, h⟩) (t0 : 0 ≤ t) (t1 : t < v) (v1 : v ≤ 64) (hD : D ≤ 16) :
    Calls Try.prog 38 #[.pointer p, .int .i64 t] w fun e w' => Made w D (rowK (fun k => weightZ s 0 t k) D) e w' := by
  have hC := config_any p _ w hp
  have HT := hid fun W => tableof_any ⟨s, v, D, l, tt, h⟩ 0 W (by omega) (by omega)
  have HR := hid fun W => makerow_any 70 (.agg #[.int .u64 (deriveZ s [0])]) (enters_of Try.func70 (by kernel_rfl) rfl) t D W (by omega) (fun k => weightZ s 0 t k) fun k wr hk hb => weight_any s 0 t k wr t0 (by omega) (by omega) (by omega)
  generalize rowK (fun k => weightZ s 0 t k) D = row at *
  clear hp
  unfold CfV at hC HT
  simp only at hC HT
  generalize deriveZ s [0] = x at *
  have hb : btw t 0 (v - 1) = true := btw_iff.2 (by omega)
  go_enter Try.func38, Try.ntmps38
  go_wp2_with fail
  refine hC.mono ?_
  rintro e w1 ⟨rfl, hb1⟩
  have HB1 := hid hb1
  have HN : Hid ((w1.alloc (.cells (CfV ⟨s, v, D, l, tt, h⟩) 32)).heap[w1.heap.size]? = some (.cells (CfV ⟨s, v, D, l, tt, h⟩) 32)) := heap_alloc_new w1 _
  have HK := hid (Cf_cells HN.out)
  unfold CfV at HK
  simp only at HK
  clear hb1 hC HN
  go_wp2_with fail
  refine (mbetween_any _ _ _ _).mono ?_
  rintro e w' ⟨rfl, rfl⟩
  rw [hb]
  have HB2 : Hid (Below w.heap.size w (w1.alloc (.cells #[.int .u64 s, .int .i64 v, .int .i64 D, .int .i64 l, .int .i64 tt, .int .i64 h] 32))) := HB1.out.alloc HB1.out.size _
  generalize hW : w1.alloc (.cells #[.int .u64 s, .int .i64 v, .int .i64 D, .int .i64 l, .int .i64 tt, .int .i64 h] 32) = W2 at *
  clear hW HB1
  go_wp2_with fail
  go_region_held3 (fun W : World => W.cell? ⟨w1.heap.size, 0, none⟩ = some (.int .u64 s) ∧ W.cell? ⟨w1.heap.size, 1, none⟩ = some (.int .i64 v) ∧ W.cell? ⟨w1.heap.size, 2, none⟩ = some (.int .i64 D) ∧ W.cell? ⟨w1.heap.size, 3, none⟩ = some (.int .i64 l) ∧ W.cell? ⟨w1.heap.size, 4, none⟩ = some (.int .i64 tt) ∧ W.cell? ⟨w1.heap.size, 5, none⟩ = some (.int .i64 h))
    (first | exact HK.out | exact Cf_keep hb4 (by assumption) | exact Cf_keep hb3 (by assumption))
    (first | (go_at_call 69; refine (HT.out _).mono ?_; rintro e w3 ⟨rfl, hb3⟩) | (go_at_call 68; refine (HR.out _).mono ?_; rintro e w4 ⟨g, c, rfl, hO, hb4⟩))
  have HB3 := hid (HB2.out.drew.trans (hb3.mono HB2.out.size))
  have HO := hid (hO.low HB3.out.size)
  have HB4 := hid (HB3.out.trans (hb4.mono HB3.out.size))
  clear hO hb3 hb4 HB2 HB3 HT HR HK
  go_wp2
  go_ret
  exact ⟨_, _, rfl, HO.out, HB4.out⟩
end Go.Proofs.Ytpllffekebkacaa
