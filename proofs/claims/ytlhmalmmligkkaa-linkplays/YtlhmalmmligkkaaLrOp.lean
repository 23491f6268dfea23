/-
  The document's link: New, without, Send.
-/
import Derived.Test.YtlhmalmmligkkaaLrSt
namespace Go.Proofs.Ytlhmalmmligkkaa
open Go.RowKit
set_option linter.unusedVariables false
set_option maxRecDepth 1000000
variable {B b : Nat} {w w' : World} {v : Value} {us : List Value} {S : Lm}

/-- A link by the document, as a value. -/
def lmV (room : Int) : Value := .agg #[.int .i64 room, .slice none 0 0, .int .u32 0, .int .u32 0, .int .u32 0, .int .u32 0]
theorem rnew_yes {room : Int} (h0 : 1 ≤ room) (h1 : room ≤ 256) (w : World) : Calls Try.prog 8 #[.int .i64 room] w fun e w' => e = .returned (.tuple #[lmV room, .int .i64 0]) ∧ Hid (Below w.heap.size w w') := by
  have HS : Hid (Below w.heap.size w (w.alloc (.cells #[.int .i64 room, .slice none 0 0, .int .u32 0, .int .u32 0, .int .u32 0, .int .u32 0] 30))) := (Below.refl _ _).alloc (Nat.le_refl _) _
  unfold lmV
  go_enter Try.func8, Try.ntmps8
  go_wp2_with fail
  refine bodyPost_ret (v := .tuple #[.agg #[.int .i64 room, .slice none 0 0, .int .u32 0, .int .u32 0, .int .u32 0, .int .u32 0], .int .i64 0]) (by simp [results, Try.results8, go_sem]) rfl ⟨rfl, ?_⟩
  exact HS
theorem rnew_no {room : Int} (h : room < 1 ∨ 256 < room) (w : World) : Calls Try.prog 8 #[.int .i64 room] w fun e w' => e = .returned (.tuple #[lmV 0, .int .i64 1]) ∧ Hid (Below w.heap.size w w') := by
  have HS : Hid (Below w.heap.size w (w.alloc (.cells #[.int .i64 0, .slice none 0 0, .int .u32 0, .int .u32 0, .int .u32 0, .int .u32 0] 30))) := (Below.refl _ _).alloc (Nat.le_refl _) _
  unfold lmV
  rcases id h with h1 | h1
  · clear h
    go_enter Try.func8, Try.ntmps8
    go_wp2_with fail
    refine bodyPost_ret (v := .tuple #[.agg #[.int .i64 0, .slice none 0 0, .int .u32 0, .int .u32 0, .int .u32 0, .int .u32 0], .int .i64 1]) (by simp [results, Try.results8, go_sem]) rfl ⟨rfl, ?_⟩
    exact HS
  · clear h
    have h2 : 1 ≤ room := by omega
    go_enter Try.func8, Try.ntmps8
    go_wp2_with fail
    refine bodyPost_ret (v := .tuple #[.agg #[.int .i64 0, .slice none 0 0, .int .u32 0, .int .u32 0, .int .u32 0, .int .u32 0], .int .i64 1]) (by simp [results, Try.results8, go_sem]) rfl ⟨rfl, ?_⟩
    exact HS
set_option maxHeartbeats 2000000 in
theorem rwithout_any (h : LrAt B w b v us S) {i : Nat} (hi : i < S.ms.length) : Calls Try.prog 32 #[.pointer (some ⟨b, 0, none⟩), .int .i64 i] w fun e w' => ∃ v', e = .returned v' ∧ Hid (w'.ownsRow w.heap.size 36 1 v' (us.eraseIdx i).length (us.eraseIdx i) ∧ Below w.heap.size w w') := by
  obtain ⟨g, cap, hv, r1, m1⟩ := h.form (by omega)
  have hn : S.ms.length ≤ 256 := Nat.le_trans h.ok.ms h.ok.r1
  have hl := h.len
  have hr := h.row
  have hcl : ∀ W, Below w.heap.size w W → ∀ j u, us[j]? = some u → W.cell? ⟨g, j, none⟩ = some u := fun W hb j u hu => (h.below hb).at hv hu
  have HK : Hid (∀ W, Below w.heap.size w W → W.cell? ⟨b, 1, none⟩ = some v) := fun W hb => (h.below hb).cells.2.1
  have hd : Below w.heap.size w w.drew := (Below.refl _ _).drew
  have hs1 := fun W => ucut_to (some ⟨g, 0, none⟩) S.ms.length cap i (by omega) m1 W
  obtain ⟨A, hs2, hA⟩ := ucut_from g S.ms.length cap i hi r1 m1
  obtain ⟨v1, w1, e1, o1, g1, _⟩ := run_rapp w.drew (B := w.heap.size) (Nat.le_refl _) (.slice none 0 0) [] (World.ownsRow_nil _ _ _ _) (some ⟨g, 0, none⟩) i cap (us.take i) (by rw [List.length_take]; omega) (fun e => by cases e)
    (fun ad ha j u hu => by
      cases ha
      rw [Addr.add_lit, Nat.zero_add]
      exact hcl _ hd j u (by
        have hj : j < i := by have := (List.getElem?_eq_some_iff.1 hu).1; rw [List.length_take] at this; omega
        rwa [List.getElem?_take_of_lt hj] at hu)) (fun u hu => h.ones u (List.mem_of_mem_take hu)) (by simp; omega) 27
  rw [List.nil_append] at o1
  have hb1 : Below w.heap.size w w1 := hd.trans (grown_below (Nat.le_refl _) (World.ownsRow_nil w.drew w.heap.size _ 1) g1)
  obtain ⟨v2, w2, e2, o2, g2, _⟩ := run_rapp w1 (B := w.heap.size) hb1.size v1 (us.take i) o1 (some A) (S.ms.length - (i + 1)) (cap - (i + 1)) (us.drop (i + 1)) (by rw [List.length_drop]; omega) (fun e => by cases e)
    (fun ad ha j u hu => by
      cases ha
      have hj : j < us.length - (i + 1) := by have := (List.getElem?_eq_some_iff.1 hu).1; rwa [List.length_drop] at this
      rw [hA (by omega), Addr.add_lit]
      rw [List.getElem?_drop] at hu
      exact hcl _ hb1 _ u hu) (fun u hu => h.ones u (List.mem_of_mem_drop hu)) (by rw [List.length_take]; omega) 27
  have hb2 : Below w.heap.size w w2 := hb1.trans (grown_below hb1.size o1 g2)
  rw [← List.eraseIdx_eq_take_drop_succ] at o2
  have HE1 := hid e1
  have HE2 := hid e2
  have HR := hid (And.intro o2 hb2)
  have HB1 := hid hb1
  have HB2 := hid hb2
  have HV : Hid (Below w.heap.size w w.drew) := hd
  have hsum : IntKind.i64.wrap ((i : Int) + 1) = (i : Int) + 1 := wrap64_in (by omega) (by omega)
  subst hv
  clear h hr hcl hd e1 o1 g1 hb1 e2 o2 g2 hb2 hA hl
  generalize S.ms.length = n at *
  generalize n - (i + 1) = d1 at *
  generalize cap - (i + 1) = d2 at *
  go_enter Try.func32, Try.ntmps32
  go_wp2_with fail
  go_region_held3 (fun W : World => W.cell? ⟨b, 1, none⟩ = some (.slice (some ⟨g, 0, none⟩) n cap)) (first | (with_reducible exact HK.out _ HV.out) | (with_reducible exact HK.out _ HB1.out) | (with_reducible exact HK.out _ HB2.out))
    (first
      | (refine step_app_eq (by rfl) 11 (by rfl) (.const (.slice none 0 0)) (.tmp 10) 27 (by rfl) _ _ _ _ (by first | (simp [Act.eval]; done) | (simp [Act.eval, Act.put]; done)) (by first | (simp [Act.eval]; done) | (simp [Act.eval, Act.put]; done)) HE1.out ?_)
      | (refine step_app_eq (by rfl) 19 (by rfl) (.tmp 11) (.tmp 18) 27 (by rfl) _ _ _ _ (by first | (simp [Act.eval]; done) | (simp [Act.eval, Act.put]; done)) (by first | (simp [Act.eval]; done) | (simp [Act.eval, Act.put]; done)) HE2.out ?_)
      | fail)
  all_goals
    clear HE1 HE2 HK
    go_wp2_with fail
    go_ret
    exact ⟨_, rfl, HR.out⟩
end Go.Proofs.Ytlhmalmmligkkaa
