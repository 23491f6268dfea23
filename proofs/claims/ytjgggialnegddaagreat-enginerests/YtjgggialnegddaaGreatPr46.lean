/-
  The texts EnGo3 of this proof.
-/
import Derived.Test.YtjgggialnegddaaGreatPr45
set_option linter.unusedVariables false
set_option maxRecDepth 1000000
namespace Go.Proofs.YtjgggialnegddaaGreat
open Go.RowKit Go.Maps
section
variable {w : World} {B mb : Nat} {pm pc : Option Addr} {qv bv : Value} {nd : Int → Nat} {S : Rs} {xs : List At} {a : At} {ys qs : List At} {F It Fc : Nat → Prop} {pa : Option Addr} {pcp : Nat}
def GoC (B : Nat) (pm pc : Option Addr) (nd : Int → Nat) (S : Rs) (a : At) (pa : Option Addr) (pcp : Nat) (k : Nat) (q : Option Addr) (W : World) : Prop :=
 W.cell? ⟨B, 0, none⟩ = some (.pointer pm) ∧ W.cell? ⟨B, 1, none⟩ = some (.pointer pc) ∧ W.cell? ⟨B, 4, none⟩ = some (.int .i64 S.s.ch) ∧ W.cell? ⟨B, 5, none⟩ = some (.int .u64 S.inc) ∧ W.cell? ⟨nd a.id, 0, none⟩ = some (.int .u64 a.id) ∧ W.cell? ⟨nd a.id, 1, none⟩ = some (.int .u64 a.seed) ∧ W.cell? ⟨nd a.id, 2, none⟩ = some (.slice pa a.ts.length pcp) ∧ W.cell? ⟨nd a.id, 3, none⟩ = some (.int .i64 a.most) ∧ W.cell? ⟨nd a.id, 4, none⟩ = some (.int .i64 k) ∧ W.cell? ⟨nd a.id, 5, none⟩ = some (.pointer q)
theorem GoF.c {q q2 : Option Addr} {a' : At} {T : List Int} {a2 : Option Addr} {c2 : Nat} {v : Value} {ms : List Mg} {W : World} (h : GoF w B mb pm pc qv bv nd S xs a ys qs F It pa pcp q q2 a' T a2 c2 v ms W) : GoC B pm pc nd S a pa pcp a.k q W := by
 obtain ⟨ta2, ds, Fc1, It1, h1, h2, _⟩ := h
 obtain ⟨c0, c1, c2, c3, c4, c5, _⟩ := h1.cells
 obtain ⟨d0, d1, d2, d3, d4, d5⟩ := At_cells h2
 exact ⟨c0, c1, c4, c5, d0, d1, d2, d3, d4, d5⟩
theorem GoD.c {q2 : Option Addr} {n : Nat} {v : Value} {ms : List Mg} {t : Nat} {W : World} (h : GoD w B mb pm pc qv bv nd S xs a ys qs F It pa pcp q2 { a with k := n } v ms t W) : GoC B pm pc nd S a pa pcp n q2 W := by
 obtain ⟨ta2, ds, Fc1, It1, h1, h2, _⟩ := h
 obtain ⟨c0, c1, c2, c3, c4, c5, _⟩ := h1.cells
 obtain ⟨d0, d1, d2, d3, d4, d5⟩ := At_cells h2
 exact ⟨c0, c1, c4, c5, d0, d1, d2, d3, d4, d5⟩
theorem GoF.fz {q q2 : Option Addr} {a' : At} {T : List Int} {a2 : Option Addr} {c2 : Nat} {v : Value} {ms : List Mg} {W : World} (h : GoF w B mb pm pc qv bv nd S xs a ys qs F It pa pcp q q2 a' T a2 c2 v ms W) (j : Nat) : W.frozen? ⟨nd a.id, j, none⟩ = false := by
 obtain ⟨ta2, ds, Fc1, It1, h1, h2, _⟩ := h
 exact frozen_of_row _ _ j _ _ h2
theorem GoF.behind {q : Option Addr} {T : List Int} {a2 : Option Addr} {c2 : Nat} {v : Value} {ms : List Mg} {W : World} (h : GoF w B mb pm pc qv bv nd S xs a ys qs F It pa pcp q q a T a2 c2 v ms W) :
  Calls Tryz.prog 57 #[.pointer (some ⟨nd a.id, 0, none⟩)] W fun e w' => e = .returned (.int .i64 ((a.text S.s.c).take a.k).length) ∧ Below W.heap.size W w' := by
 obtain ⟨ta2, ds, Fc1, It1, h1, h2, h3, h4, h5, _⟩ := h
 obtain ⟨_, _, _, _, hlk⟩ := h1.ok.ok a h1.aL
 refine ebehind_any W h2 h3 h5 (by omega) _ ?_
 unfold stA
 rw [List.length_append, List.length_cons]
 omega
set_option maxHeartbeats 4000000 in
theorem ego_any (h : EnI w B mb pm pc qv bv nd S (xs ++ a :: ys) qs Fc It) (ht : S.tk ≤ 99980) :
  Calls Tryz.prog 39 #[.pointer (some ⟨B, 0, none⟩), .pointer (some ⟨nd a.id, 0, none⟩)] w fun e w' => ∃ v b, e = .returned v ∧ TellR S.s.c S.s.ch.toNat S.inc a (msA S.s.c S.s.ch.toNat S.inc a b) (leA S.s.c S.s.ch.toNat a b) ∧ GoE w B mb pm pc nd S qs (enF B mb qv bv nd S Fc) It (xs ++ (leA S.s.c S.s.ch.toNat a b).toList ++ ys) v (msA S.s.c S.s.ch.toNat S.inc a b) w' := by
 have haL := h.aL
 have hSL := h.L
 obtain ⟨pa, pcp, sp, hv, hr, hp, hst, hvoc⟩ := h.att a haL
 obtain ⟨hu1, hu2, hmo, hkm, hlk⟩ := h.ok.ok a haL
 obtain ⟨_, _, _, _, hc1, hc16⟩ := h.bnd
 obtain ⟨ch, hch⟩ : ∃ ch : Nat, S.s.ch = ch := ⟨S.s.ch.toNat, by omega⟩
 have hch1 : 1 ≤ ch := by omega
 have hch16 : ch ≤ 16 := by omega
 have HCh := hid hch
 obtain ⟨T, hT⟩ : ∃ T, nxA S.s.c a ch = T := ⟨_, rfl⟩
 have HBd := hid (nxA_bd (c := S.s.c) (ch := ch) hkm hlk (by omega))
 have hk256 : a.k ≤ 256 := by omega
 obtain ⟨d0, d1, d2, d3, d4, d5⟩ := At_cells hv
 have HS := hid hSL
 have HTl := hid fun (b : Bool) => tell_go (c := S.s.c) (a := a) (ch := ch) (b := b) S.inc hch1 hkm
 have hst' : StO w S.s.c a sp It := hst
 have HMs : Hid (∀ b, msA S.s.c ch S.inc a b = (if T = [] then [] else [emM a.id S.inc a.k T]) ++ (if b = true then [ovM a.id S.inc (a.k + T.length : Nat) 1] else [])) := fun b => by unfold msA; rw [hT]
 have HLe : Hid (∀ b, leA S.s.c ch a b = if b = true then none else some { a with k := a.k + T.length }) := fun b => by unfold leA; rw [hT]
 have HFin : Hid (∀ (v : Value) (b : Bool) (W : World) (ms : List Mg) (L : List At), TellR S.s.c ch S.inc a (msA S.s.c ch S.inc a b) (leA S.s.c ch a b) → ms = msA S.s.c ch S.inc a b → L = xs ++ (leA S.s.c ch a b).toList ++ ys → GoE w B mb pm pc nd S qs (enF B mb qv bv nd S Fc) It L v ms W → ∃ v' b', Ending.returned v = .returned v' ∧ TellR S.s.c ch S.inc a (msA S.s.c ch S.inc a b') (leA S.s.c ch a b') ∧ GoE w B mb pm pc nd S qs (enF B mb qv bv nd S Fc) It (xs ++ (leA S.s.c ch a b').toList ++ ys) v' (msA S.s.c ch S.inc a b') W) := fun v b W ms L h1 h2 h3 h4 => ⟨v, b, rfl, h1, by rw [← h3, ← h2]; exact h4⟩
 simp only [hT] at HTl
 rw [hT] at HBd
 rw [hch, Int.toNat_natCast]
 clear hst hmo hlk hc1 hc16 hSL
 rcases hst' with rfl | ⟨ta, hs, hta⟩
 ·have hB := ebegin_any h haL (by omega)
  have f5 : w.frozen? ⟨nd a.id, 5, none⟩ = false := frozen_of_row _ _ 5 _ _ hv
  have HGb := hid fun (W : World) (q : Option Addr) (hT : ThrE w B mb pm pc qv bv nd S (xs ++ a :: ys) qs Fc It (stA S.s.c a) q W) => go_begin h hv hr hp hvoc hT
  clear h hv hr hp hvoc
  go_enter Tryz.func39, Tryz.ntmps39
  go_wp2_with fail
  refine hB.mono ?_
  rintro e w0 ⟨q, rfl, hThr⟩
  obtain ⟨hF, hv0⟩ := HGb.out w0 q hThr
  have z5 := (At_cells hv0).2.2.2.2.2
  have g5 : w0.frozen? ⟨nd a.id, 5, none⟩ = false := frozen_of_row _ _ 5 _ _ hv0
  obtain ⟨w1, hw1⟩ : ∃ w1, w1 = w0.setCell ⟨nd a.id, 5, none⟩ (.pointer q) := ⟨_, rfl⟩
  rw [← hw1] at hF
  have HF := hid hF
  clear hB HGb hThr hF hv0 d0 d1 d2 d3 d4 d5 f5
  have HKg := hid fun (W : World) (q2 : Option Addr) (a' : At) (T : List Int) (a2 : Option Addr) (c2 : Nat) (v : Value) (ms : List Mg) (h : GoF w B mb pm pc qv bv nd S xs a ys qs (enF B mb qv bv nd S Fc) It pa pcp q q2 a' T a2 c2 v ms W) => h.c
  unfold GoC at HKg
  simp only [HCh.out] at HKg
  have H1c := HF.out.c
  have HBh := hid fun (W : World) (hb : Below w1.heap.size w1 W) => (HF.out.below hb).behind
  have HFr := hid fun (W : World) (hb : Below w1.heap.size w1 W) => (HF.out.below hb).from (ch := ch) hch16
  have HKb := hid fun (W : World) (hb : Below w1.heap.size w1 W) => (HF.out.below hb).c
  unfold JbV jbA at HFr
  unfold GoC at H1c HKb
  simp only [hT, HCh.out] at HFr HKb H1c
  generalize ((a.text S.s.c).take a.k).length = kk at *
  clear HF
  obtain ⟨y0, y1, y2, y3, y4, y5, y6, y7, y8, y9⟩ := H1c
  rw [hw1] at y0 y1 y2 y3 y4 y5 y6 y7 y8 y9
  go_wp2_with fail
  rw [← hw1]
  clear hw1
  have HV : Hid (Below w1.heap.size w1 w1.drew) := (Below.refl _ _).drew
  clear y0 y1 y2 y3 y4 y5 y6 y7 y8 y9
  go_region_held3 (fun W : World => W.cell? ⟨B, 0, none⟩ = some (.pointer pm) ∧ W.cell? ⟨B, 1, none⟩ = some (.pointer pc) ∧ W.cell? ⟨B, 4, none⟩ = some (.int .i64 (ch : Int)) ∧ W.cell? ⟨B, 5, none⟩ = some (.int .u64 S.inc) ∧ W.cell? ⟨nd a.id, 0, none⟩ = some (.int .u64 a.id) ∧ W.cell? ⟨nd a.id, 1, none⟩ = some (.int .u64 a.seed) ∧ W.cell? ⟨nd a.id, 2, none⟩ = some (.slice pa a.ts.length pcp) ∧ W.cell? ⟨nd a.id, 3, none⟩ = some (.int .i64 a.most) ∧ W.cell? ⟨nd a.id, 4, none⟩ = some (.int .i64 (a.k : Int)) ∧ W.cell? ⟨nd a.id, 5, none⟩ = some (.pointer q)) (first | (with_reducible exact HKb.out _ (Below.refl _ _)) | (with_reducible exact HKb.out _ HV.out) | (with_reducible exact HKg.out _ _ _ _ _ _ _ _ HF3.out))
   (first
    | (go_at_call 57; (with_reducible refine (HBh.out _ HV.out).mono ?_); rintro e w2 ⟨rfl, hb⟩; replace HV := hid (HV.out.trans (hb.mono HV.out.size)); clear hb)
    | (go_at_call 56; (with_reducible refine (HFr.out _ HV.out).mono ?_); rintro e w3 ⟨a2, c2, q2, bb, rfl, hF3, he1, he2⟩; have HF3 := hid hF3; have HE1 := hid he1; have HE2 := hid he2; clear hF3 he1 he2)
    | fail)
  all_goals
   obtain ⟨y0, y1, y2, y3, y4, y5, y6, y7, y8, y9⟩ := HKg.out _ _ _ _ _ _ _ _ HF3.out
   have f4 := HF3.out.fz 4
   have f5 := HF3.out.fz 5
   have r3 : T.length ≤ c2 := by obtain ⟨_, _, _, _, _, _, _, _, _, _, h, _⟩ := HF3.out; exact h.room
   have m3 : c2 ≤ 9223372036854775807 := by obtain ⟨_, _, _, _, _, _, _, _, _, _, h, _⟩ := HF3.out; exact h.most
   obtain ⟨n, hN⟩ : ∃ n, T.length = n := ⟨_, rfl⟩
   have HN := hid hN
   obtain ⟨k2, hk2⟩ : ∃ k2, a.k + n = k2 := ⟨_, rfl⟩
   have hk2b : k2 ≤ 256 := by have := HBd.out; rw [hN, hk2] at this; omega
   have hsum : (a.k : Int) + (n : Int) = (k2 : Int) := by omega
   have hu : IntKind.u64.wrap (a.k : Int) = (a.k : Int) := by rw [IntKind.wrap_u64]; omega
   have hu2' : IntKind.u64.wrap (k2 : Int) = (k2 : Int) := by rw [IntKind.wrap_u64]; omega
   have HBd2 : Hid (a.k + n ≤ a.most ∧ a.ts.length + (a.k + n) < 256) := by have := HBd.out; rw [hN] at this; exact this
   rw [hN] at HF3 r3 ⊢
   clear HBh HFr HKb HV HBd hN
   by_cases hn0 : n = 0
   ·obtain ⟨w7, hw7⟩ : ∃ w7, w7 = (w3.setCell ⟨nd a.id, 5, none⟩ (.pointer q2)).setCell ⟨nd a.id, 4, none⟩ (.int .i64 (a.k + n : Nat)) := ⟨_, rfl⟩
    have HD7 : Hid (GoD w B mb pm pc qv bv nd S xs a ys qs (enF B mb qv bv nd S Fc) It pa pcp q2 { a with k := k2 } (.slice none 0 0) [] (S.tk + 1) w7) := by
     have := HF3.out.store HBd2.out
     rw [hk2] at this
     rw [hw7, hk2]
     exact this
    have HTe : Hid (T = []) := List.eq_nil_of_length_eq_zero (by rw [HN.out]; exact hn0)
    subst hn0
    rw [Nat.add_zero] at hk2 hw7
    subst hk2
    clear HF3 HBd2 HKg
    cases bb with
    | false =>
     have HR := hid (HFin.out _ false _ _ _ (HTl.out false HE1.out HE2.out) (by rw [HMs.out, HTe.out]; rfl) (by rw [HLe.out, HN.out]; simp) (GoD.stay HD7.out rfl HS.out))
     clear HFin HE1 HE2 HD7 HTl HMs HLe
     rw [hw7] at HR
     go_wp2_with fail
     go_ret
     exact HR.out
    | true =>
     have HTt := hid (HTl.out true HE1.out HE2.out)
     clear HE1 HE2 HTl
     have HAp : Hid (∀ W8 : World, Below w7.heap.size w7 W8 → ∃ v9 w9, (Builtin.append_ #[49, 49] 49 #[.slice none 0 0, .slice (some ⟨W8.heap.size, 0, none⟩) 1 1]).run Tryz.prog (W8.alloc (.cells (MgC (ovM a.id S.inc a.k 1) none 0 0) 55)) = .ok v9 w9 ∧ GoD w B mb pm pc qv bv nd S xs a ys qs (enF B mb qv bv nd S Fc) It pa pcp q2 { a with k := a.k } v9 (([] : List Mg) ++ [ovM a.id S.inc a.k 1]) (S.tk + 1) w9) := fun W8 hb => (HD7.out.below hb).app ((Below.refl _ _).alloc (Nat.le_refl _) _) rfl (by simp) W8.heap.size (heap_alloc_new W8 _) _
     have HKd := hid fun (W : World) (hb : Below w7.heap.size w7 W) => (HD7.out.below hb).c
     have HKe := hid fun (W : World) (v : Value) (ms : List Mg) (t : Nat) (h : GoD w B mb pm pc qv bv nd S xs a ys qs (enF B mb qv bv nd S Fc) It pa pcp q2 { a with k := a.k } v ms t W) => h.c
     have HAl : Hid (∀ (W : World) (o : Obj), Below w7.heap.size w7 W → Below w7.heap.size w7 (W.alloc o)) := fun W o hb => hb.alloc hb.size o
     have HOv := hid fun (W : World) => eover_any a.id S.inc a.k 1 W
     unfold GoC at HKd HKe
     unfold MgC at HAp HOv
     simp only [HCh.out, ovM] at HKd HKe HAp HOv
     obtain ⟨y0, y1, y2, y3, y4, y5, y6, y7, y8, y9⟩ := HKd.out w7 (Below.refl _ _)
     have hwP := hid HD7.out
     clear HD7
     go_wp2_with fail
     rw [← hw7]
     clear hw7
     have HV : Hid (Below w7.heap.size w7 w7.drew) := (Below.refl _ _).drew
     clear y0 y1 y2 y3 y4 y5 y6 y7 y8 y9
     go_region_held3 (fun W : World => W.cell? ⟨B, 0, none⟩ = some (.pointer pm) ∧ W.cell? ⟨B, 1, none⟩ = some (.pointer pc) ∧ W.cell? ⟨B, 4, none⟩ = some (.int .i64 (ch : Int)) ∧ W.cell? ⟨B, 5, none⟩ = some (.int .u64 S.inc) ∧ W.cell? ⟨nd a.id, 0, none⟩ = some (.int .u64 a.id) ∧ W.cell? ⟨nd a.id, 1, none⟩ = some (.int .u64 a.seed) ∧ W.cell? ⟨nd a.id, 2, none⟩ = some (.slice pa a.ts.length pcp) ∧ W.cell? ⟨nd a.id, 3, none⟩ = some (.int .i64 a.most) ∧ W.cell? ⟨nd a.id, 4, none⟩ = some (.int .i64 (a.k : Int)) ∧ W.cell? ⟨nd a.id, 5, none⟩ = some (.pointer q2)) (first | (with_reducible exact HKd.out _ (Below.refl _ _)) | (with_reducible exact HKd.out _ HV.out) | (with_reducible exact HKd.out _ (HAl.out _ _ HV.out)) | (with_reducible exact HKe.out _ _ _ _ HD9.out))
      (first
       | (go_at_call 58; (with_reducible refine (HOv.out _).mono ?_); rintro e w8 ⟨rfl, hb⟩; replace HV := hid (HV.out.trans (hb.mono HV.out.size)); clear hb)
       | (obtain ⟨v9, w9, e9, hD9⟩ := HAp.out _ HV.out; refine step_app_eq (by rfl) 94 (by rfl) (.tmp 78) (.tmp 93) 49 (by rfl) _ _ _ _ (by simp [Act.eval]) (by simp [Act.eval]) e9 ?_; have HD9 := hid hD9; clear hD9 e9)
       | fail)
     all_goals
      have HPt := hid fun (W : World) (hb : Below w9.heap.size w9 W) => (HD9.out.below hb).put rfl (by omega)
      have HKf := hid fun (W : World) (hb : Below w9.heap.size w9 W) => HKe.out _ _ _ _ (HD9.out.below hb)
      obtain ⟨y0, y1, y2, y3, y4, y5, y6, y7, y8, y9⟩ := HKf.out w9 (Below.refl _ _)
      clear HAp HKd HAl HOv HV hwP
      go_wp2_with fail
      have HV : Hid (Below w9.heap.size w9 w9.drew) := (Below.refl _ _).drew
      clear y0 y1 y2 y3 y4 y5 y6 y7 y8 y9
      go_region_held3 (fun W : World => W.cell? ⟨B, 0, none⟩ = some (.pointer pm) ∧ W.cell? ⟨B, 1, none⟩ = some (.pointer pc) ∧ W.cell? ⟨B, 4, none⟩ = some (.int .i64 (ch : Int)) ∧ W.cell? ⟨B, 5, none⟩ = some (.int .u64 S.inc) ∧ W.cell? ⟨nd a.id, 0, none⟩ = some (.int .u64 a.id) ∧ W.cell? ⟨nd a.id, 1, none⟩ = some (.int .u64 a.seed) ∧ W.cell? ⟨nd a.id, 2, none⟩ = some (.slice pa a.ts.length pcp) ∧ W.cell? ⟨nd a.id, 3, none⟩ = some (.int .i64 a.most) ∧ W.cell? ⟨nd a.id, 4, none⟩ = some (.int .i64 (a.k : Int)) ∧ W.cell? ⟨nd a.id, 5, none⟩ = some (.pointer q2)) (first | (with_reducible exact HKf.out _ (Below.refl _ _)) | (with_reducible exact HKf.out _ HV.out) | (with_reducible exact HKe.out _ _ _ _ HD10.out))
       (first
        | (go_at_call 59; (with_reducible refine (HPt.out _ HV.out).mono ?_); rintro e w10 ⟨n10, rfl, hD10⟩; have HD10 := hid hD10; clear hD10)
        | fail)
      all_goals
       obtain ⟨y0, y1, y2, y3, y4, y5, y6, y7, y8, y9⟩ := HKe.out _ _ _ _ HD10.out
       have hLg := GoD.letgo HD10.out rfl HS.out
       clear HPt HKf HKe HV HD9 HD10
       go_wp2_with fail
       refine hLg.mono ?_
       rintro e w11 ⟨rfl, hE⟩
       have HR := hid (HFin.out _ true _ _ _ HTt.out (by rw [HMs.out, HTe.out]; rfl) (by rw [HLe.out]; simp) hE)
       clear hLg hE y0 y1 y2 y3 y4 y5 y6 y7 y8 y9 HFin
       go_wp2
       go_ret
       exact HR.out
   ·have q0 : (0 : Int) < (n : Int) := by omega
    have q00 : 0 < n := by omega
    have HTn : Hid (¬ T = []) := fun e => hn0 (by rw [← HN.out, e]; rfl)
    obtain ⟨w4, hw4⟩ : ∃ w4, w4 = w3.drew.alloc (.cells (MgC (emM a.id S.inc a.k T) a2 n c2) 55) := ⟨_, rfl⟩
    have hb4 : Below w3.heap.size w3 w4 := by rw [hw4]; exact (Below.refl _ _).drew.alloc (Nat.le_refl _) _
    have hc4 : w4.heap[w3.heap.size]? = some (.cells (MgC (emM a.id S.inc a.k T) a2 n c2) 55 (0, 0)) := by rw [hw4]; exact heap_alloc_new w3.drew _
    have hsz : w.heap.size ≤ w4.heap.size := by obtain ⟨_, _, _, _, _, _, _, _, _, _, _, _, _, _, _, h⟩ := HF3.out; exact Nat.le_trans h.size hb4.size
    obtain ⟨v6, w6, e6, ho6, hg6⟩ := run_mapp w4 w.heap.size (.slice none 0 0) [] [] (World.ownsRow_nil _ _ _ _) rfl (some ⟨w3.heap.size, 0, none⟩) 1 1 [emM a.id S.inc a.k T] [(a2, n, c2)] rfl rfl (fun e => by cases e) (fun ad e j u hu => by
     cases e
     rw [Addr.add_lit, Nat.zero_add, cell_of_row _ _ _ _ _ _ hc4]
     simpa [flatM] using hu) (by simp) hsz 49
    have hF6 := HF3.out.app hb4 (m := emM a.id S.inc a.k T) rfl (by rw [HN.out]; exact ho6) hg6
    have HF6 := hid hF6
    have f4' := hF6.fz 4
    have f5' := hF6.fz 5
    obtain ⟨z0, z1, z2, z3, z4, z5, z6, z7, z8, z9⟩ := HKg.out _ _ _ _ _ _ _ _ hF6
    obtain ⟨w7, hw7⟩ : ∃ w7, w7 = (w6.setCell ⟨nd a.id, 5, none⟩ (.pointer q2)).setCell ⟨nd a.id, 4, none⟩ (.int .i64 (k2 : Nat)) := ⟨_, rfl⟩
    have HD7 : Hid (GoD w B mb pm pc qv bv nd S xs a ys qs (enF B mb qv bv nd S Fc) It pa pcp q2 { a with k := k2 } v6 [emM a.id S.inc a.k T] (S.tk + 1) w7) := by
     have := hF6.store HBd2.out
     rw [hk2] at this
     rw [hw7]
     exact this
    rw [hw4] at e6
    unfold MgC emM at e6
    simp only at e6
    have HE6 := hid e6
    clear HF3 HBd2 HKg hF6 HF6 ho6 hg6 hc4 hb4 hw4 hsz e6 f4 f5
    go_wp2_with fail
    go_cut [8] (fun x wx => v6 = x ∧ w6 = wx)
    case first =>
     go_region_law (refine step_app_eq (by rfl) 63 (by rfl) (.tmp 46) (.tmp 62) 49 (by rfl) _ _ _ _ (by simp [Act.eval]) (by simp [Act.eval]) HE6.out ?_)
     all_goals
      go_wp2_with fail
     all_goals
      go_meet
      exact ⟨rfl, rfl⟩
    case rest =>
     obtain ⟨ec1, ec2⟩ := hcut
     subst ec1 ec2
     clear HE6 y0 y1 y2 y3 y4 y5 y6 y7 y8 y9
     cases bb with
     | false =>
      have HR := hid (HFin.out _ false _ _ _ (HTl.out false HE1.out HE2.out) (by rw [HMs.out, if_neg HTn.out]; rfl) (by rw [HLe.out, HN.out, hk2]; simp) (GoD.stay HD7.out rfl HS.out))
      clear HFin HE1 HE2 HD7 HTl HMs HLe
      rw [hw7] at HR
      go_wp2_with fail
      go_ret
      exact HR.out
     | true =>
      have HTt := hid (HTl.out true HE1.out HE2.out)
      clear HE1 HE2 HTl
      have HAp : Hid (∀ W8 : World, Below w7.heap.size w7 W8 → ∃ v9 w9, (Builtin.append_ #[49, 49] 49 #[v6, .slice (some ⟨W8.heap.size, 0, none⟩) 1 1]).run Tryz.prog (W8.alloc (.cells (MgC (ovM a.id S.inc k2 1) none 0 0) 55)) = .ok v9 w9 ∧ GoD w B mb pm pc qv bv nd S xs a ys qs (enF B mb qv bv nd S Fc) It pa pcp q2 { a with k := k2 } v9 ([emM a.id S.inc a.k T] ++ [ovM a.id S.inc k2 1]) (S.tk + 1) w9) := fun W8 hb => (HD7.out.below hb).app ((Below.refl _ _).alloc (Nat.le_refl _) _) rfl (by simp) W8.heap.size (heap_alloc_new W8 _) _
      have HKd := hid fun (W : World) (hb : Below w7.heap.size w7 W) => (HD7.out.below hb).c
      have HKe := hid fun (W : World) (v : Value) (ms : List Mg) (t : Nat) (h : GoD w B mb pm pc qv bv nd S xs a ys qs (enF B mb qv bv nd S Fc) It pa pcp q2 { a with k := k2 } v ms t W) => h.c
      have HAl : Hid (∀ (W : World) (o : Obj), Below w7.heap.size w7 W → Below w7.heap.size w7 (W.alloc o)) := fun W o hb => hb.alloc hb.size o
      have HOv := hid fun (W : World) => eover_any a.id S.inc k2 1 W
      unfold GoC at HKd HKe
      unfold MgC at HAp HOv
      simp only [HCh.out, ovM] at HKd HKe HAp HOv
      obtain ⟨y0, y1, y2, y3, y4, y5, y6, y7, y8, y9⟩ := HKd.out w7 (Below.refl _ _)
      have hwP := hid HD7.out
      clear HD7
      go_wp2_with fail
      rw [← hw7]
      clear hw7
      have HV : Hid (Below w7.heap.size w7 w7.drew) := (Below.refl _ _).drew
      clear y0 y1 y2 y3 y4 y5 y6 y7 y8 y9
      go_region_held3 (fun W : World => W.cell? ⟨B, 0, none⟩ = some (.pointer pm) ∧ W.cell? ⟨B, 1, none⟩ = some (.pointer pc) ∧ W.cell? ⟨B, 4, none⟩ = some (.int .i64 (ch : Int)) ∧ W.cell? ⟨B, 5, none⟩ = some (.int .u64 S.inc) ∧ W.cell? ⟨nd a.id, 0, none⟩ = some (.int .u64 a.id) ∧ W.cell? ⟨nd a.id, 1, none⟩ = some (.int .u64 a.seed) ∧ W.cell? ⟨nd a.id, 2, none⟩ = some (.slice pa a.ts.length pcp) ∧ W.cell? ⟨nd a.id, 3, none⟩ = some (.int .i64 a.most) ∧ W.cell? ⟨nd a.id, 4, none⟩ = some (.int .i64 (k2 : Int)) ∧ W.cell? ⟨nd a.id, 5, none⟩ = some (.pointer q2)) (first | (with_reducible exact HKd.out _ (Below.refl _ _)) | (with_reducible exact HKd.out _ HV.out) | (with_reducible exact HKd.out _ (HAl.out _ _ HV.out)) | (with_reducible exact HKe.out _ _ _ _ HD9.out))
       (first
        | (go_at_call 58; (with_reducible refine (HOv.out _).mono ?_); rintro e w8 ⟨rfl, hb⟩; replace HV := hid (HV.out.trans (hb.mono HV.out.size)); clear hb)
        | (obtain ⟨v9, w9, e9, hD9⟩ := HAp.out _ HV.out; refine step_app_eq (by rfl) 94 (by rfl) (.tmp 78) (.tmp 93) 49 (by rfl) _ _ _ _ (by simp [Act.eval]) (by simp [Act.eval]) e9 ?_; have HD9 := hid hD9; clear hD9 e9)
        | fail)
      all_goals
       have HPt := hid fun (W : World) (hb : Below w9.heap.size w9 W) => (HD9.out.below hb).put rfl (by omega)
       have HKf := hid fun (W : World) (hb : Below w9.heap.size w9 W) => HKe.out _ _ _ _ (HD9.out.below hb)
       obtain ⟨y0, y1, y2, y3, y4, y5, y6, y7, y8, y9⟩ := HKf.out w9 (Below.refl _ _)
       clear HAp HKd HAl HOv HV hwP
       go_wp2_with fail
       have HV : Hid (Below w9.heap.size w9 w9.drew) := (Below.refl _ _).drew
       clear y0 y1 y2 y3 y4 y5 y6 y7 y8 y9
       go_region_held3 (fun W : World => W.cell? ⟨B, 0, none⟩ = some (.pointer pm) ∧ W.cell? ⟨B, 1, none⟩ = some (.pointer pc) ∧ W.cell? ⟨B, 4, none⟩ = some (.int .i64 (ch : Int)) ∧ W.cell? ⟨B, 5, none⟩ = some (.int .u64 S.inc) ∧ W.cell? ⟨nd a.id, 0, none⟩ = some (.int .u64 a.id) ∧ W.cell? ⟨nd a.id, 1, none⟩ = some (.int .u64 a.seed) ∧ W.cell? ⟨nd a.id, 2, none⟩ = some (.slice pa a.ts.length pcp) ∧ W.cell? ⟨nd a.id, 3, none⟩ = some (.int .i64 a.most) ∧ W.cell? ⟨nd a.id, 4, none⟩ = some (.int .i64 (k2 : Int)) ∧ W.cell? ⟨nd a.id, 5, none⟩ = some (.pointer q2)) (first | (with_reducible exact HKf.out _ (Below.refl _ _)) | (with_reducible exact HKf.out _ HV.out) | (with_reducible exact HKe.out _ _ _ _ HD10.out))
        (first
         | (go_at_call 59; (with_reducible refine (HPt.out _ HV.out).mono ?_); rintro e w10 ⟨n10, rfl, hD10⟩; have HD10 := hid hD10; clear hD10)
         | fail)
       all_goals
        obtain ⟨y0, y1, y2, y3, y4, y5, y6, y7, y8, y9⟩ := HKe.out _ _ _ _ HD10.out
        have hLg := GoD.letgo HD10.out rfl HS.out
        clear HPt HKf HKe HV HD9 HD10
        go_wp2_with fail
        refine hLg.mono ?_
        rintro e w11 ⟨rfl, hE⟩
        have HR := hid (HFin.out _ true _ _ _ HTt.out (by rw [HMs.out, if_neg HTn.out, HN.out, hk2]; rfl) (by rw [HLe.out]; simp) hE)
        clear hLg hE y0 y1 y2 y3 y4 y5 y6 y7 y8 y9 HFin
        go_wp2
        go_ret
        exact HR.out
 ·have HF : Hid (GoF w B mb pm pc qv bv nd S xs a ys qs (enF B mb qv bv nd S Fc) It pa pcp sp sp a [] none 0 (.slice none 0 0) [] w) := go_have h hv hr hp hs hta
  obtain ⟨g1, rfl⟩ := hs.ptr
  clear h hv hr hp hvoc hs hta
  have HKg := hid fun (W : World) (q2 : Option Addr) (a' : At) (T : List Int) (a2 : Option Addr) (c2 : Nat) (v : Value) (ms : List Mg) (h : GoF w B mb pm pc qv bv nd S xs a ys qs (enF B mb qv bv nd S Fc) It pa pcp (some ⟨g1, 0, none⟩) q2 a' T a2 c2 v ms W) => h.c
  unfold GoC at HKg
  simp only [HCh.out] at HKg
  go_enter Tryz.func39, Tryz.ntmps39
  have H1c := HF.out.c
  have HBh := hid fun (W : World) (hb : Below w.heap.size w W) => (HF.out.below hb).behind
  have HFr := hid fun (W : World) (hb : Below w.heap.size w W) => (HF.out.below hb).from (ch := ch) hch16
  have HKb := hid fun (W : World) (hb : Below w.heap.size w W) => (HF.out.below hb).c
  unfold JbV jbA at HFr
  unfold GoC at H1c HKb
  simp only [hT, HCh.out] at HFr HKb H1c
  generalize ((a.text S.s.c).take a.k).length = kk at *
  clear HF
  obtain ⟨y0, y1, y2, y3, y4, y5, y6, y7, y8, y9⟩ := H1c
  go_wp2_with fail
  have HV : Hid (Below w.heap.size w w.drew) := (Below.refl _ _).drew
  clear y0 y1 y2 y3 y4 y5 y6 y7 y8 y9
  go_region_held3 (fun W : World => W.cell? ⟨B, 0, none⟩ = some (.pointer pm) ∧ W.cell? ⟨B, 1, none⟩ = some (.pointer pc) ∧ W.cell? ⟨B, 4, none⟩ = some (.int .i64 (ch : Int)) ∧ W.cell? ⟨B, 5, none⟩ = some (.int .u64 S.inc) ∧ W.cell? ⟨nd a.id, 0, none⟩ = some (.int .u64 a.id) ∧ W.cell? ⟨nd a.id, 1, none⟩ = some (.int .u64 a.seed) ∧ W.cell? ⟨nd a.id, 2, none⟩ = some (.slice pa a.ts.length pcp) ∧ W.cell? ⟨nd a.id, 3, none⟩ = some (.int .i64 a.most) ∧ W.cell? ⟨nd a.id, 4, none⟩ = some (.int .i64 (a.k : Int)) ∧ W.cell? ⟨nd a.id, 5, none⟩ = some (.pointer (some ⟨g1, 0, none⟩))) (first | (with_reducible exact HKb.out _ (Below.refl _ _)) | (with_reducible exact HKb.out _ HV.out) | (with_reducible exact HKg.out _ _ _ _ _ _ _ _ HF3.out))
   (first
    | (go_at_call 57; (with_reducible refine (HBh.out _ HV.out).mono ?_); rintro e w2 ⟨rfl, hb⟩; replace HV := hid (HV.out.trans (hb.mono HV.out.size)); clear hb)
    | (go_at_call 56; (with_reducible refine (HFr.out _ HV.out).mono ?_); rintro e w3 ⟨a2, c2, q2, bb, rfl, hF3, he1, he2⟩; have HF3 := hid hF3; have HE1 := hid he1; have HE2 := hid he2; clear hF3 he1 he2)
    | fail)
  all_goals
   obtain ⟨y0, y1, y2, y3, y4, y5, y6, y7, y8, y9⟩ := HKg.out _ _ _ _ _ _ _ _ HF3.out
   have f4 := HF3.out.fz 4
   have f5 := HF3.out.fz 5
   have r3 : T.length ≤ c2 := by obtain ⟨_, _, _, _, _, _, _, _, _, _, h, _⟩ := HF3.out; exact h.room
   have m3 : c2 ≤ 9223372036854775807 := by obtain ⟨_, _, _, _, _, _, _, _, _, _, h, _⟩ := HF3.out; exact h.most
   obtain ⟨n, hN⟩ : ∃ n, T.length = n := ⟨_, rfl⟩
   have HN := hid hN
   obtain ⟨k2, hk2⟩ : ∃ k2, a.k + n = k2 := ⟨_, rfl⟩
   have hk2b : k2 ≤ 256 := by have := HBd.out; rw [hN, hk2] at this; omega
   have hsum : (a.k : Int) + (n : Int) = (k2 : Int) := by omega
   have hu : IntKind.u64.wrap (a.k : Int) = (a.k : Int) := by rw [IntKind.wrap_u64]; omega
   have hu2' : IntKind.u64.wrap (k2 : Int) = (k2 : Int) := by rw [IntKind.wrap_u64]; omega
   have HBd2 : Hid (a.k + n ≤ a.most ∧ a.ts.length + (a.k + n) < 256) := by have := HBd.out; rw [hN] at this; exact this
   rw [hN] at HF3 r3 ⊢
   clear HBh HFr HKb HV HBd hN
   by_cases hn0 : n = 0
   ·obtain ⟨w7, hw7⟩ : ∃ w7, w7 = (w3.setCell ⟨nd a.id, 5, none⟩ (.pointer q2)).setCell ⟨nd a.id, 4, none⟩ (.int .i64 (a.k + n : Nat)) := ⟨_, rfl⟩
    have HD7 : Hid (GoD w B mb pm pc qv bv nd S xs a ys qs (enF B mb qv bv nd S Fc) It pa pcp q2 { a with k := k2 } (.slice none 0 0) [] (S.tk + 1) w7) := by
     have := HF3.out.store HBd2.out
     rw [hk2] at this
     rw [hw7, hk2]
     exact this
    have HTe : Hid (T = []) := List.eq_nil_of_length_eq_zero (by rw [HN.out]; exact hn0)
    subst hn0
    rw [Nat.add_zero] at hk2 hw7
    subst hk2
    clear HF3 HBd2 HKg
    cases bb with
    | false =>
     have HR := hid (HFin.out _ false _ _ _ (HTl.out false HE1.out HE2.out) (by rw [HMs.out, HTe.out]; rfl) (by rw [HLe.out, HN.out]; simp) (GoD.stay HD7.out rfl HS.out))
     clear HFin HE1 HE2 HD7 HTl HMs HLe
     rw [hw7] at HR
     go_wp2_with fail
     go_ret
     exact HR.out
    | true =>
     have HTt := hid (HTl.out true HE1.out HE2.out)
     clear HE1 HE2 HTl
     have HAp : Hid (∀ W8 : World, Below w7.heap.size w7 W8 → ∃ v9 w9, (Builtin.append_ #[49, 49] 49 #[.slice none 0 0, .slice (some ⟨W8.heap.size, 0, none⟩) 1 1]).run Tryz.prog (W8.alloc (.cells (MgC (ovM a.id S.inc a.k 1) none 0 0) 55)) = .ok v9 w9 ∧ GoD w B mb pm pc qv bv nd S xs a ys qs (enF B mb qv bv nd S Fc) It pa pcp q2 { a with k := a.k } v9 (([] : List Mg) ++ [ovM a.id S.inc a.k 1]) (S.tk + 1) w9) := fun W8 hb => (HD7.out.below hb).app ((Below.refl _ _).alloc (Nat.le_refl _) _) rfl (by simp) W8.heap.size (heap_alloc_new W8 _) _
     have HKd := hid fun (W : World) (hb : Below w7.heap.size w7 W) => (HD7.out.below hb).c
     have HKe := hid fun (W : World) (v : Value) (ms : List Mg) (t : Nat) (h : GoD w B mb pm pc qv bv nd S xs a ys qs (enF B mb qv bv nd S Fc) It pa pcp q2 { a with k := a.k } v ms t W) => h.c
     have HAl : Hid (∀ (W : World) (o : Obj), Below w7.heap.size w7 W → Below w7.heap.size w7 (W.alloc o)) := fun W o hb => hb.alloc hb.size o
     have HOv := hid fun (W : World) => eover_any a.id S.inc a.k 1 W
     unfold GoC at HKd HKe
     unfold MgC at HAp HOv
     simp only [HCh.out, ovM] at HKd HKe HAp HOv
     obtain ⟨y0, y1, y2, y3, y4, y5, y6, y7, y8, y9⟩ := HKd.out w7 (Below.refl _ _)
     have hwP := hid HD7.out
     clear HD7
     go_wp2_with fail
     rw [← hw7]
     clear hw7
     have HV : Hid (Below w7.heap.size w7 w7.drew) := (Below.refl _ _).drew
     clear y0 y1 y2 y3 y4 y5 y6 y7 y8 y9
     go_region_held3 (fun W : World => W.cell? ⟨B, 0, none⟩ = some (.pointer pm) ∧ W.cell? ⟨B, 1, none⟩ = some (.pointer pc) ∧ W.cell? ⟨B, 4, none⟩ = some (.int .i64 (ch : Int)) ∧ W.cell? ⟨B, 5, none⟩ = some (.int .u64 S.inc) ∧ W.cell? ⟨nd a.id, 0, none⟩ = some (.int .u64 a.id) ∧ W.cell? ⟨nd a.id, 1, none⟩ = some (.int .u64 a.seed) ∧ W.cell? ⟨nd a.id, 2, none⟩ = some (.slice pa a.ts.length pcp) ∧ W.cell? ⟨nd a.id, 3, none⟩ = some (.int .i64 a.most) ∧ W.cell? ⟨nd a.id, 4, none⟩ = some (.int .i64 (a.k : Int)) ∧ W.cell? ⟨nd a.id, 5, none⟩ = some (.pointer q2)) (first | (with_reducible exact HKd.out _ (Below.refl _ _)) | (with_reducible exact HKd.out _ HV.out) | (with_reducible exact HKd.out _ (HAl.out _ _ HV.out)) | (with_reducible exact HKe.out _ _ _ _ HD9.out))
      (first
       | (go_at_call 58; (with_reducible refine (HOv.out _).mono ?_); rintro e w8 ⟨rfl, hb⟩; replace HV := hid (HV.out.trans (hb.mono HV.out.size)); clear hb)
       | (obtain ⟨v9, w9, e9, hD9⟩ := HAp.out _ HV.out; refine step_app_eq (by rfl) 94 (by rfl) (.tmp 78) (.tmp 93) 49 (by rfl) _ _ _ _ (by simp [Act.eval]) (by simp [Act.eval]) e9 ?_; have HD9 := hid hD9; clear hD9 e9)
       | fail)
     all_goals
      have HPt := hid fun (W : World) (hb : Below w9.heap.size w9 W) => (HD9.out.below hb).put rfl (by omega)
      have HKf := hid fun (W : World) (hb : Below w9.heap.size w9 W) => HKe.out _ _ _ _ (HD9.out.below hb)
      obtain ⟨y0, y1, y2, y3, y4, y5, y6, y7, y8, y9⟩ := HKf.out w9 (Below.refl _ _)
      clear HAp HKd HAl HOv HV hwP
      go_wp2_with fail
      have HV : Hid (Below w9.heap.size w9 w9.drew) := (Below.refl _ _).drew
      clear y0 y1 y2 y3 y4 y5 y6 y7 y8 y9
      go_region_held3 (fun W : World => W.cell? ⟨B, 0, none⟩ = some (.pointer pm) ∧ W.cell? ⟨B, 1, none⟩ = some (.pointer pc) ∧ W.cell? ⟨B, 4, none⟩ = some (.int .i64 (ch : Int)) ∧ W.cell? ⟨B, 5, none⟩ = some (.int .u64 S.inc) ∧ W.cell? ⟨nd a.id, 0, none⟩ = some (.int .u64 a.id) ∧ W.cell? ⟨nd a.id, 1, none⟩ = some (.int .u64 a.seed) ∧ W.cell? ⟨nd a.id, 2, none⟩ = some (.slice pa a.ts.length pcp) ∧ W.cell? ⟨nd a.id, 3, none⟩ = some (.int .i64 a.most) ∧ W.cell? ⟨nd a.id, 4, none⟩ = some (.int .i64 (a.k : Int)) ∧ W.cell? ⟨nd a.id, 5, none⟩ = some (.pointer q2)) (first | (with_reducible exact HKf.out _ (Below.refl _ _)) | (with_reducible exact HKf.out _ HV.out) | (with_reducible exact HKe.out _ _ _ _ HD10.out))
       (first
        | (go_at_call 59; (with_reducible refine (HPt.out _ HV.out).mono ?_); rintro e w10 ⟨n10, rfl, hD10⟩; have HD10 := hid hD10; clear hD10)
        | fail)
      all_goals
       obtain ⟨y0, y1, y2, y3, y4, y5, y6, y7, y8, y9⟩ := HKe.out _ _ _ _ HD10.out
       have hLg := GoD.letgo HD10.out rfl HS.out
       clear HPt HKf HKe HV HD9 HD10
       go_wp2_with fail
       refine hLg.mono ?_
       rintro e w11 ⟨rfl, hE⟩
       have HR := hid (HFin.out _ true _ _ _ HTt.out (by rw [HMs.out, HTe.out]; rfl) (by rw [HLe.out]; simp) hE)
       clear hLg hE y0 y1 y2 y3 y4 y5 y6 y7 y8 y9 HFin
       go_wp2
       go_ret
       exact HR.out
   ·have q0 : (0 : Int) < (n : Int) := by omega
    have q00 : 0 < n := by omega
    have HTn : Hid (¬ T = []) := fun e => hn0 (by rw [← HN.out, e]; rfl)
    obtain ⟨w4, hw4⟩ : ∃ w4, w4 = w3.drew.alloc (.cells (MgC (emM a.id S.inc a.k T) a2 n c2) 55) := ⟨_, rfl⟩
    have hb4 : Below w3.heap.size w3 w4 := by rw [hw4]; exact (Below.refl _ _).drew.alloc (Nat.le_refl _) _
    have hc4 : w4.heap[w3.heap.size]? = some (.cells (MgC (emM a.id S.inc a.k T) a2 n c2) 55 (0, 0)) := by rw [hw4]; exact heap_alloc_new w3.drew _
    have hsz : w.heap.size ≤ w4.heap.size := by obtain ⟨_, _, _, _, _, _, _, _, _, _, _, _, _, _, _, h⟩ := HF3.out; exact Nat.le_trans h.size hb4.size
    obtain ⟨v6, w6, e6, ho6, hg6⟩ := run_mapp w4 w.heap.size (.slice none 0 0) [] [] (World.ownsRow_nil _ _ _ _) rfl (some ⟨w3.heap.size, 0, none⟩) 1 1 [emM a.id S.inc a.k T] [(a2, n, c2)] rfl rfl (fun e => by cases e) (fun ad e j u hu => by
     cases e
     rw [Addr.add_lit, Nat.zero_add, cell_of_row _ _ _ _ _ _ hc4]
     simpa [flatM] using hu) (by simp) hsz 49
    have hF6 := HF3.out.app hb4 (m := emM a.id S.inc a.k T) rfl (by rw [HN.out]; exact ho6) hg6
    have HF6 := hid hF6
    have f4' := hF6.fz 4
    have f5' := hF6.fz 5
    obtain ⟨z0, z1, z2, z3, z4, z5, z6, z7, z8, z9⟩ := HKg.out _ _ _ _ _ _ _ _ hF6
    obtain ⟨w7, hw7⟩ : ∃ w7, w7 = (w6.setCell ⟨nd a.id, 5, none⟩ (.pointer q2)).setCell ⟨nd a.id, 4, none⟩ (.int .i64 (k2 : Nat)) := ⟨_, rfl⟩
    have HD7 : Hid (GoD w B mb pm pc qv bv nd S xs a ys qs (enF B mb qv bv nd S Fc) It pa pcp q2 { a with k := k2 } v6 [emM a.id S.inc a.k T] (S.tk + 1) w7) := by
     have := hF6.store HBd2.out
     rw [hk2] at this
     rw [hw7]
     exact this
    rw [hw4] at e6
    unfold MgC emM at e6
    simp only at e6
    have HE6 := hid e6
    clear HF3 HBd2 HKg hF6 HF6 ho6 hg6 hc4 hb4 hw4 hsz e6 f4 f5
    go_wp2_with fail
    go_cut [8] (fun x wx => v6 = x ∧ w6 = wx)
    case first =>
     go_region_law (refine step_app_eq (by rfl) 63 (by rfl) (.tmp 46) (.tmp 62) 49 (by rfl) _ _ _ _ (by simp [Act.eval]) (by simp [Act.eval]) HE6.out ?_)
     all_goals
      go_wp2_with fail
     all_goals
      go_meet
      exact ⟨rfl, rfl⟩
    case rest =>
     obtain ⟨ec1, ec2⟩ := hcut
     subst ec1 ec2
     clear HE6 y0 y1 y2 y3 y4 y5 y6 y7 y8 y9
     cases bb with
     | false =>
      have HR := hid (HFin.out _ false _ _ _ (HTl.out false HE1.out HE2.out) (by rw [HMs.out, if_neg HTn.out]; rfl) (by rw [HLe.out, HN.out, hk2]; simp) (GoD.stay HD7.out rfl HS.out))
      clear HFin HE1 HE2 HD7 HTl HMs HLe
      rw [hw7] at HR
      go_wp2_with fail
      go_ret
      exact HR.out
     | true =>
      have HTt := hid (HTl.out true HE1.out HE2.out)
      clear HE1 HE2 HTl
      have HAp : Hid (∀ W8 : World, Below w7.heap.size w7 W8 → ∃ v9 w9, (Builtin.append_ #[49, 49] 49 #[v6, .slice (some ⟨W8.heap.size, 0, none⟩) 1 1]).run Tryz.prog (W8.alloc (.cells (MgC (ovM a.id S.inc k2 1) none 0 0) 55)) = .ok v9 w9 ∧ GoD w B mb pm pc qv bv nd S xs a ys qs (enF B mb qv bv nd S Fc) It pa pcp q2 { a with k := k2 } v9 ([emM a.id S.inc a.k T] ++ [ovM a.id S.inc k2 1]) (S.tk + 1) w9) := fun W8 hb => (HD7.out.below hb).app ((Below.refl _ _).alloc (Nat.le_refl _) _) rfl (by simp) W8.heap.size (heap_alloc_new W8 _) _
      have HKd := hid fun (W : World) (hb : Below w7.heap.size w7 W) => (HD7.out.below hb).c
      have HKe := hid fun (W : World) (v : Value) (ms : List Mg) (t : Nat) (h : GoD w B mb pm pc qv bv nd S xs a ys qs (enF B mb qv bv nd S Fc) It pa pcp q2 { a with k := k2 } v ms t W) => h.c
      have HAl : Hid (∀ (W : World) (o : Obj), Below w7.heap.size w7 W → Below w7.heap.size w7 (W.alloc o)) := fun W o hb => hb.alloc hb.size o
      have HOv := hid fun (W : World) => eover_any a.id S.inc k2 1 W
      unfold GoC at HKd HKe
      unfold MgC at HAp HOv
      simp only [HCh.out, ovM] at HKd HKe HAp HOv
      obtain ⟨y0, y1, y2, y3, y4, y5, y6, y7, y8, y9⟩ := HKd.out w7 (Below.refl _ _)
      have hwP := hid HD7.out
      clear HD7
      go_wp2_with fail
      rw [← hw7]
      clear hw7
      have HV : Hid (Below w7.heap.size w7 w7.drew) := (Below.refl _ _).drew
      clear y0 y1 y2 y3 y4 y5 y6 y7 y8 y9
      go_region_held3 (fun W : World => W.cell? ⟨B, 0, none⟩ = some (.pointer pm) ∧ W.cell? ⟨B, 1, none⟩ = some (.pointer pc) ∧ W.cell? ⟨B, 4, none⟩ = some (.int .i64 (ch : Int)) ∧ W.cell? ⟨B, 5, none⟩ = some (.int .u64 S.inc) ∧ W.cell? ⟨nd a.id, 0, none⟩ = some (.int .u64 a.id) ∧ W.cell? ⟨nd a.id, 1, none⟩ = some (.int .u64 a.seed) ∧ W.cell? ⟨nd a.id, 2, none⟩ = some (.slice pa a.ts.length pcp) ∧ W.cell? ⟨nd a.id, 3, none⟩ = some (.int .i64 a.most) ∧ W.cell? ⟨nd a.id, 4, none⟩ = some (.int .i64 (k2 : Int)) ∧ W.cell? ⟨nd a.id, 5, none⟩ = some (.pointer q2)) (first | (with_reducible exact HKd.out _ (Below.refl _ _)) | (with_reducible exact HKd.out _ HV.out) | (with_reducible exact HKd.out _ (HAl.out _ _ HV.out)) | (with_reducible exact HKe.out _ _ _ _ HD9.out))
       (first
        | (go_at_call 58; (with_reducible refine (HOv.out _).mono ?_); rintro e w8 ⟨rfl, hb⟩; replace HV := hid (HV.out.trans (hb.mono HV.out.size)); clear hb)
        | (obtain ⟨v9, w9, e9, hD9⟩ := HAp.out _ HV.out; refine step_app_eq (by rfl) 94 (by rfl) (.tmp 78) (.tmp 93) 49 (by rfl) _ _ _ _ (by simp [Act.eval]) (by simp [Act.eval]) e9 ?_; have HD9 := hid hD9; clear hD9 e9)
        | fail)
      all_goals
       have HPt := hid fun (W : World) (hb : Below w9.heap.size w9 W) => (HD9.out.below hb).put rfl (by omega)
       have HKf := hid fun (W : World) (hb : Below w9.heap.size w9 W) => HKe.out _ _ _ _ (HD9.out.below hb)
       obtain ⟨y0, y1, y2, y3, y4, y5, y6, y7, y8, y9⟩ := HKf.out w9 (Below.refl _ _)
       clear HAp HKd HAl HOv HV hwP
       go_wp2_with fail
       have HV : Hid (Below w9.heap.size w9 w9.drew) := (Below.refl _ _).drew
       clear y0 y1 y2 y3 y4 y5 y6 y7 y8 y9
       go_region_held3 (fun W : World => W.cell? ⟨B, 0, none⟩ = some (.pointer pm) ∧ W.cell? ⟨B, 1, none⟩ = some (.pointer pc) ∧ W.cell? ⟨B, 4, none⟩ = some (.int .i64 (ch : Int)) ∧ W.cell? ⟨B, 5, none⟩ = some (.int .u64 S.inc) ∧ W.cell? ⟨nd a.id, 0, none⟩ = some (.int .u64 a.id) ∧ W.cell? ⟨nd a.id, 1, none⟩ = some (.int .u64 a.seed) ∧ W.cell? ⟨nd a.id, 2, none⟩ = some (.slice pa a.ts.length pcp) ∧ W.cell? ⟨nd a.id, 3, none⟩ = some (.int .i64 a.most) ∧ W.cell? ⟨nd a.id, 4, none⟩ = some (.int .i64 (k2 : Int)) ∧ W.cell? ⟨nd a.id, 5, none⟩ = some (.pointer q2)) (first | (with_reducible exact HKf.out _ (Below.refl _ _)) | (with_reducible exact HKf.out _ HV.out) | (with_reducible exact HKe.out _ _ _ _ HD10.out))
        (first
         | (go_at_call 59; (with_reducible refine (HPt.out _ HV.out).mono ?_); rintro e w10 ⟨n10, rfl, hD10⟩; have HD10 := hid hD10; clear hD10)
         | fail)
       all_goals
        obtain ⟨y0, y1, y2, y3, y4, y5, y6, y7, y8, y9⟩ := HKe.out _ _ _ _ HD10.out
        have hLg := GoD.letgo HD10.out rfl HS.out
        clear HPt HKf HKe HV HD9 HD10
        go_wp2_with fail
        refine hLg.mono ?_
        rintro e w11 ⟨rfl, hE⟩
        have HR := hid (HFin.out _ true _ _ _ HTt.out (by rw [HMs.out, if_neg HTn.out, HN.out, hk2]; rfl) (by rw [HLe.out]; simp) hE)
        clear hLg hE y0 y1 y2 y3 y4 y5 y6 y7 y8 y9 HFin
        go_wp2
        go_ret
        exact HR.out
end
end Go.Proofs.YtjgggialnegddaaGreat
