/-
  Package breaker: close.
-/
import Derived.Test.YtekdbmhpdkdjjaaBrPr2
namespace Go.Proofs.Ytekdbmhpdkdjjaa
open Go.RowKit
set_option linter.unusedVariables false
set_option maxRecDepth 1000000
variable {b : Nat} {w w' : World} {P : Pk}

theorem PkAt.allset {W : World} (h : PkAt W b P) : PkAt (((((((((((((W.setCell ⟨b, 0, none⟩ (.int .i64 P.f)).setCell ⟨b, 1, none⟩ (.int .i64 P.c)).setCell ⟨b, 2, none⟩ (.int .i64 P.m)).setCell ⟨b, 3, none⟩ (.int .i64 P.n)).setCell ⟨b, 4, none⟩ (.int .i64 P.now)).setCell ⟨b, 5, none⟩ (.int .i64 0)).setCell ⟨b, 6, none⟩ (.int .i64 P.c)).setCell ⟨b, 7, none⟩ (.int .u32 0)).setCell ⟨b, 8, none⟩ (.int .u32 P.f)).setCell ⟨b, 9, none⟩ (.int .i64 0)).setCell ⟨b, 10, none⟩ (.bool false)).setCell ⟨b, 11, none⟩ (.int .u32 0)).setCell ⟨b, 12, none⟩ (.int .u32 0)) b P.shut := (((((((((((((h.set (P' := ⟨P.f, P.c, P.m, P.n, P.now, P.st, P.cool, P.fn, P.fm, P.un, P.tr, P.sn, P.sm⟩) rfl).set (P' := ⟨P.f, P.c, P.m, P.n, P.now, P.st, P.cool, P.fn, P.fm, P.un, P.tr, P.sn, P.sm⟩) rfl).set (P' := ⟨P.f, P.c, P.m, P.n, P.now, P.st, P.cool, P.fn, P.fm, P.un, P.tr, P.sn, P.sm⟩) rfl).set (P' := ⟨P.f, P.c, P.m, P.n, P.now, P.st, P.cool, P.fn, P.fm, P.un, P.tr, P.sn, P.sm⟩) rfl).set (P' := ⟨P.f, P.c, P.m, P.n, P.now, P.st, P.cool, P.fn, P.fm, P.un, P.tr, P.sn, P.sm⟩) rfl).set (P' := ⟨P.f, P.c, P.m, P.n, P.now, 0, P.cool, P.fn, P.fm, P.un, P.tr, P.sn, P.sm⟩) rfl).set (P' := ⟨P.f, P.c, P.m, P.n, P.now, 0, P.c, P.fn, P.fm, P.un, P.tr, P.sn, P.sm⟩) rfl).set (P' := ⟨P.f, P.c, P.m, P.n, P.now, 0, P.c, 0, P.fm, P.un, P.tr, P.sn, P.sm⟩) rfl).set (P' := ⟨P.f, P.c, P.m, P.n, P.now, 0, P.c, 0, P.f, P.un, P.tr, P.sn, P.sm⟩) rfl).set (P' := ⟨P.f, P.c, P.m, P.n, P.now, 0, P.c, 0, P.f, 0, P.tr, P.sn, P.sm⟩) rfl).set (P' := ⟨P.f, P.c, P.m, P.n, P.now, 0, P.c, 0, P.f, 0, false, P.sn, P.sm⟩) rfl).set (P' := ⟨P.f, P.c, P.m, P.n, P.now, 0, P.c, 0, P.f, 0, false, 0, P.sm⟩) rfl).set (P' := ⟨P.f, P.c, P.m, P.n, P.now, 0, P.c, 0, P.f, 0, false, 0, 0⟩) rfl)
theorem Tn.allset {W : World} (t : Tn b w W) : Tn b w (((((((((((((W.setCell ⟨b, 0, none⟩ (.int .i64 P.f)).setCell ⟨b, 1, none⟩ (.int .i64 P.c)).setCell ⟨b, 2, none⟩ (.int .i64 P.m)).setCell ⟨b, 3, none⟩ (.int .i64 P.n)).setCell ⟨b, 4, none⟩ (.int .i64 P.now)).setCell ⟨b, 5, none⟩ (.int .i64 0)).setCell ⟨b, 6, none⟩ (.int .i64 P.c)).setCell ⟨b, 7, none⟩ (.int .u32 0)).setCell ⟨b, 8, none⟩ (.int .u32 P.f)).setCell ⟨b, 9, none⟩ (.int .i64 0)).setCell ⟨b, 10, none⟩ (.bool false)).setCell ⟨b, 11, none⟩ (.int .u32 0)).setCell ⟨b, 12, none⟩ (.int .u32 0)) := (((((((((((((t.set _ _).set _ _).set _ _).set _ _).set _ _).set _ _).set _ _).set _ _).set _ _).set _ _).set _ _).set _ _).set _ _)
set_option maxHeartbeats 4000000 in
theorem bclose_any (h : PkAt w b P) (h0 : 1 ≤ P.f) (h1 : P.f ≤ 1000) : Calls Try.prog 27 #[.pointer (some ⟨b, 0, none⟩)] w fun e w' => e = .returned (.tuple #[]) ∧ Hid (PkAt w' b P.shut ∧ Tn b w w') := by
  have HN := hid fun W => bnone_any P.f W h0 h1
  have h := PkAt.below h (Below.refl _ _).drew
  have HG := hid (And.intro h ((Tn.refl b w).drew))
  clear h
  go_enter Try.func27, Try.ntmps27
  go_wp2_with fail
  obtain ⟨d0, d1, d2, d3, d4, d5, d6, d7, d8, d9, d10, d11, d12⟩ := HG.out.1.cells
  have f0 := fun k => HG.out.1.frozen k
  go_region_held3 (fun W : World => W.cell? ⟨b, 0, none⟩ = some (.int .i64 P.f) ∧ W.cell? ⟨b, 1, none⟩ = some (.int .i64 P.c) ∧ W.cell? ⟨b, 2, none⟩ = some (.int .i64 P.m) ∧ W.cell? ⟨b, 3, none⟩ = some (.int .i64 P.n) ∧ W.cell? ⟨b, 4, none⟩ = some (.int .i64 P.now))
    (refine And.intro ?_ (And.intro ?_ (And.intro ?_ (And.intro ?_ ?_))) <;> with_reducible assumption)
    (first | (go_at_call 30; (with_reducible refine (HN.out _).mono ?_); rintro e w1 ⟨rfl, hb⟩; replace HG := hid (And.intro (HG.out.1.below hb.out) (HG.out.2.below hb.out)); clear d0 d1 d2 d3 d4 d5 d6 d7 d8 d9 d10 d11 d12 f0 hb HN; obtain ⟨d0, d1, d2, d3, d4, d5, d6, d7, d8, d9, d10, d11, d12⟩ := HG.out.1.cells; have f0 := fun k => HG.out.1.frozen k; have HX := hid (And.intro HG.out.1.allset (Tn.allset (P := P) HG.out.2)); obtain ⟨e0, e1, e2, e3, e4, -⟩ := HX.out.1.cells; (try unfold Pk.shut at e0 e1 e2 e3 e4); (try dsimp only at e0 e1 e2 e3 e4)) | fail)
  all_goals
    go_end0
    exact ⟨rfl, HX⟩
end Go.Proofs.Ytekdbmhpdkdjjaa
