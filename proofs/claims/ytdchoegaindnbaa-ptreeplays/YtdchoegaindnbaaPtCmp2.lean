/-
  mark.compare.
-/
import Derived.Test.YtdchoegaindnbaaPtCmp
namespace Go.Proofs.Ytdchoegaindnbaa
open Go.RowKit
set_option linter.unusedVariables false
set_option maxRecDepth 1000000

theorem or_new {a b c r : Int} {W1 : World} {n : Nat} (hr : r = or3 a b c) (hn : n = W1.heap.size) : Calls Try.prog 48 #[.slice (some ⟨n, 0, none⟩) 3 3] (W1.alloc (.cells #[.int .i64 a, .int .i64 b, .int .i64 c] 3)).drew fun e w' => e = .returned (.int .i64 r) ∧ (W1.alloc (.cells #[.int .i64 a, .int .i64 b, .int .i64 c] 3)).drew = w' := by
  subst hn hr
  have h : (W1.alloc (.cells #[.int .i64 a, .int .i64 b, .int .i64 c] 3)).drew.heap[W1.heap.size]? = some (.cells #[.int .i64 a, .int .i64 b, .int .i64 c] 3 (0, 0)) := heap_alloc_new W1 _
  exact or_any (by rw [cell_of_row _ _ _ _ _ _ h]; rfl) (by rw [cell_of_row _ _ _ _ _ _ h]; rfl) (by rw [cell_of_row _ _ _ _ _ _ h]; rfl)
set_option maxHeartbeats 4000000 in
theorem mcompare {W : World} {a b : Mk} (ha : MkB W a) (hb : MkB W b) (ka : a.ok) (kb : b.ok) : Calls Try.prog 43 #[.pointer (some ⟨a.blk, 0, none⟩), .pointer (some ⟨b.blk, 0, none⟩)] W fun e w' => e = .returned (.int .i64 (cmpM a b)) ∧ Hid (Gw W w') := by
  have HTa := hid fun (w : World) (hg : Gw W w) => tokens_any (ha.below hg.1) ka
  have HTb := hid fun (w : World) (hg : Gw W w) => tokens_any (hb.below hg.1) kb
  have HK : Hid (∀ W' : World, Gw W W' → W'.cell? ⟨a.blk, 1, none⟩ = some (.int .u64 a.rep) ∧ W'.cell? ⟨a.blk, 2, none⟩ = some (.int .i64 a.toks.length) ∧ W'.cell? ⟨a.blk, 3, none⟩ = some (.int .u64 a.used) ∧ W'.cell? ⟨b.blk, 1, none⟩ = some (.int .u64 b.rep) ∧ W'.cell? ⟨b.blk, 2, none⟩ = some (.int .i64 b.toks.length) ∧ W'.cell? ⟨b.blk, 3, none⟩ = some (.int .u64 b.used)) := fun W' hg => by
    have h1 := (ha.below hg.1).cells
    have h2 := (hb.below hg.1).cells
    exact ⟨h1.2.1, h1.2.2.1, h1.2.2.2, h2.2.1, h2.2.2.1, h2.2.2.2⟩
  have HSC := hid fun (w : World) (a1 a2 : Option Addr) (c1 c2 : Nat) (r1 : Reads .i64 w a1 a.toks.length c1 a.toks) (r2 : Reads .i64 w a2 b.toks.length c2 b.toks) => scompare r1 r2 ka.2.2.1 kb.2.2.1
  obtain ⟨c1, Hc1⟩ : ∃ c, Hid (cmpZ a.used b.used = c) := ⟨_, rfl⟩
  obtain ⟨c2, Hc2⟩ : ∃ c, Hid (cmpZ b.toks.length a.toks.length = c) := ⟨_, rfl⟩
  obtain ⟨c3, Hc3⟩ : ∃ c, Hid (cmpZ a.rep b.rep = c) := ⟨_, rfl⟩
  obtain ⟨oc, Hoc⟩ : ∃ oc, Hid (oc = or3 c1 c2 c3) := ⟨_, rfl⟩
  have HR : Hid (cmpM a b = if oc ≠ 0 then oc else cmpL a.toks b.toks) := by
    unfold Hid cmpM
    rw [Hc1.out, Hc2.out, Hc3.out, ← Hoc.out]
  have hC1 := fun W : World => cmp_u a.used b.used W
  have hC2 := fun W : World => cmp_i b.toks.length a.toks.length W
  have hC3 := fun W : World => cmp_u a.rep b.rep W
  rw [Hc1.out] at hC1
  rw [Hc2.out] at hC2
  rw [Hc3.out] at hC3
  have HC1 := hid hC1
  have HC2 := hid hC2
  have HC3 := hid hC3
  clear hC1 hC2 hC3 ha hb
  have HV := hid (Gw.refl W)
  have HVd : Hid (Gw W W.drew) := (Gw.refl W).drew
  have HVa := hid fun (o : Obj) => ((Gw.refl W).alloc o).drew
  generalize a.used = ua at *
  generalize b.used = ub at *
  generalize a.rep = ra at *
  generalize b.rep = rb at *
  generalize a.toks.length = la at *
  generalize b.toks.length = lb at *
  go_enter Try.func43, Try.ntmps43
  go_wp2_with fail
  go_region_held3 (fun W' : World => W'.cell? ⟨a.blk, 1, none⟩ = some (.int .u64 ra) ∧ W'.cell? ⟨a.blk, 2, none⟩ = some (.int .i64 la) ∧ W'.cell? ⟨a.blk, 3, none⟩ = some (.int .u64 ua) ∧ W'.cell? ⟨b.blk, 1, none⟩ = some (.int .u64 rb) ∧ W'.cell? ⟨b.blk, 2, none⟩ = some (.int .i64 lb) ∧ W'.cell? ⟨b.blk, 3, none⟩ = some (.int .u64 ub))
    (first | (with_reducible exact HK.out _ HV.out) | (with_reducible exact HK.out _ HVd.out) | (with_reducible exact HK.out _ (HVa.out _)))
    (first
      | (go_at_call 49; first | (with_reducible refine (HC1.out _).mono ?_; rintro e w' ⟨rfl, rfl⟩) | (with_reducible refine (HC3.out _).mono ?_; rintro e w' ⟨rfl, rfl⟩))
      | (go_at_call 50; (with_reducible refine (HC2.out _).mono ?_); rintro e w' ⟨rfl, rfl⟩)
      | (go_at_call 48; (with_reducible refine (or_new (a := c1) (b := c2) (c := c3) Hoc.out rfl).mono ?_); rintro e w' ⟨rfl, rfl⟩))
  have HVe := hid (HVa.out (.cells #[.int .i64 c1, .int .i64 c2, .int .i64 c3] 3))
  clear HC1 HC2 HC3 Hc1 Hc2 Hc3 HV HVd HVa
  generalize (W.alloc (.cells #[.int .i64 c1, .int .i64 c2, .int .i64 c3] 3)).drew = w1 at *
  by_cases e : oc = 0
  · have HR2 : Hid (cmpM a b = cmpL a.toks b.toks) := by have := HR.out; rw [e] at this; unfold Hid; simpa using this
    subst e
    go_wp2_with fail
    refine (HTa.out _ HVe.out).mono ?_
    rintro e w2 ⟨a2, k2, rfl, H2⟩
    have HG2 := hid (HVe.out.trans H2.out.1)
    go_wp2_with fail
    refine (HTb.out _ HG2.out).mono ?_
    rintro e w3 ⟨a3, k3, rfl, H3⟩
    have HG3 := hid (HG2.out.trans H3.out.1)
    have hS := HSC.out w3 a2 a3 k2 k3 (H2.out.2.below H3.out.1.1) H3.out.2
    go_wp2_with fail
    refine hS.mono ?_
    rintro e w4 ⟨rfl, rfl⟩
    go_wp2_with fail
    go_ret
    exact ⟨by rw [HR2.out]; rfl, HG3⟩
  · have HR2 : Hid (cmpM a b = oc) := by have := HR.out; rw [if_pos e] at this; exact this
    go_wp2_with fail
    go_ret
    exact ⟨by rw [HR2.out]; rfl, HVe⟩
end Go.Proofs.Ytdchoegaindnbaa
