/-
  Package member: Add.
-/
import Derived.Test.YtlhhkgjolilpiaaMbLive
namespace Go.Proofs.Ytlhhkgjolilpiaa
open Go.RowKit
set_option linter.unusedVariables false
set_option maxRecDepth 1000000
variable {W W' w w' : World} {b M g : Nat} {f : Int → Nat} {S S' : Ml} {r q r' : Mr} {n t v wt s i : Int}

/-- Blocks, one more. -/
def setF (f : Int → Nat) (n : Int) (g : Nat) : Int → Nat := fun x => if x = n then g else f x
theorem ents_set (f : Int → Nat) {L : List Mr} {n : Int} (g : Nat) (h : ∀ r ∈ L, r.n ≠ n) : ents (setF f n g) L = ents f L := by
  unfold ents setF
  refine List.map_congr_left fun r hr => ?_
  rw [if_neg (h r hr)]
/-- One is added. -/
theorem MlAt.added (h : MlAt W b M f { S with last := S.last + 1 }) (ok : MlOk S) (hg : W.heap.size ≤ g) {W1 W2 : World} (hb1 : Below W.heap.size W W1) (hnew : W1.heap[g]? = some (.cells (MrC S.new1) 55 (0, 0))) (hm : MqAt W2 M (ents (setF f (S.last + 1) g) (S.L ++ [S.new1]))) (hf : Fb (at1 M) W1 W2) :
    MlO W b M f { S with last := S.last + 1 } S.more (setF f (S.last + 1) g) W2 := by
  have hne : ∀ r ∈ S.L, r.n ≠ S.last + 1 := fun r hr => by have := (ok.rep r hr).n.2; omega
  have hfo : ∀ r ∈ S.L, setF f (S.last + 1) g r.n = f r.n := fun r hr => if_neg (hne r hr)
  have hfn : setF f (S.last + 1) g S.new1.n = g := if_pos rfl
  have h1 := h.below hb1
  have hMl := h.map.lt
  refine ⟨⟨hf.one h1.box fun e => h1.bM e, hm, fun r hr => ?_, fun r hr q hq e => ?_⟩, ((Fb.of hb1).trans hf fun x hx => .inl (.inr (.inl hx))), fun k hk => ?_⟩
  · rcases List.mem_append.1 hr with hr | hr
    · rw [hfo r hr]
      exact hf.one (h1.rep r hr) fun e => h1.fM hr e
    · rw [List.mem_singleton.1 hr, hfn]
      exact hf.one hnew fun e => by have e' : g = M := e; omega
  · rcases List.mem_append.1 hr with hr | hr
    · rcases List.mem_append.1 hq with hq | hq
      · rw [hfo r hr, hfo q hq] at e
        exact h.inj r hr q hq e
      · rw [List.mem_singleton.1 hq, hfn, hfo r hr] at e
        have := lt_of_block (h.rep r hr)
        omega
    · rcases List.mem_append.1 hq with hq | hq
      · rw [List.mem_singleton.1 hr, hfn, hfo q hq] at e
        have := lt_of_block (h.rep q hq)
        omega
      · rw [List.mem_singleton.1 hr, List.mem_singleton.1 hq]
  · rcases hk with e | e | ⟨r, hr, e⟩
    · exact .inl (.inl e)
    · exact .inl (.inr (.inl e))
    · rcases List.mem_append.1 hr with hr | hr
      · rw [hfo r hr] at e
        exact .inl (.inr (.inr ⟨r, hr, e⟩))
      · rw [List.mem_singleton.1 hr, hfn] at e
        exact .inr (by omega)
theorem lkQ_app1 {L : List (Int × Nat)} (x : Int) (g : Nat) (y : Int) (hx : lkQ L x = none) : lkQ (L ++ [(x, g)]) y = if y = x then some g else lkQ L y := by
  induction L with
  | nil => by_cases e : y = x <;> simp [lkQ, e]; exact fun h => absurd h.symm e
  | cons m L ih =>
    have h1 : m.1 ≠ x := fun e => by simp [lkQ, e] at hx
    have h2 : lkQ L x = none := by simpa [lkQ, h1] using hx
    rw [List.cons_append]
    by_cases e : m.1 = y
    · have e2 : ¬ y = x := fun h => h1 (e.trans h)
      simp [lkQ, e, e2]
    · simp only [lkQ, if_neg e]
      exact ih h2
/-- The map's store, and what it leaves. -/
theorem MlAt.storing (h : MlAt W b M f { S with last := S.last + 1 }) (ok : MlOk S) (hf : S.full = false) {W1 : World} (hW1 : W1 = W.alloc (.cells (MrC S.new1) 55)) :
    ∃ W2, (Instr.mapUpdate 59 (.map (some M)) (.int .u64 (S.last + 1)) (.pointer (some ⟨W.heap.size, 0, none⟩))).run Try.prog W1 = .ok () W2 ∧ MlO W b M f { S with last := S.last + 1 } S.more (setF f (S.last + 1) W.heap.size) W2 := by
  have hl := ok.lt hf
  have hb1 : Below W.heap.size W W1 := by rw [hW1]; exact (Below.refl _ _).alloc (Nat.le_refl _) _
  have hnew : W1.heap[W.heap.size]? = some (.cells (MrC S.new1) 55 (0, 0)) := by rw [hW1]; exact heap_alloc_new W _
  have hne : ∀ r ∈ S.L, r.n ≠ S.last + 1 := fun r hr => by have := (ok.rep r hr).n.2; omega
  have hlast := ok.last
  have hU : isU (S.last + 1) := ⟨by omega, by omega⟩
  have hm1 : MqAt W1 M (ents f S.L) := h.map.below hb1
  have hlk : lkQ (ents f S.L) (S.last + 1) = none := by rw [lkQ_ents, gtL_none.2 hne]; rfl
  obtain ⟨W2, hr, hst, hfb⟩ := hm1.store (by rw [ents, List.length_map]; omega) hU W.heap.size
  have okm := ok.more hf
  have e : ents (setF f (S.last + 1) W.heap.size) (S.L ++ [S.new1]) = ents f S.L ++ [(S.last + 1, W.heap.size)] := by
    show ents _ _ = _
    unfold ents
    rw [List.map_append]
    have := ents_set f W.heap.size hne
    unfold ents at this
    rw [this]
    show _ ++ [(S.last + 1, setF f (S.last + 1) W.heap.size (S.last + 1))] = _
    unfold setF
    rw [if_pos rfl]
  refine ⟨W2, hr, h.added ok (Nat.le_refl _) hb1 hnew ?_ hfb⟩
  have hnod : NuQ (ents f S.L ++ [(S.last + 1, W.heap.size)]) := by
    rw [← e]
    show ((ents _ S.more.L).map fun q => q.1).Nodup
    rw [ents_n]
    exact okm.ris.nodup
  rw [e]
  refine hst _ hnod (fun q hq => ?_) (fun y _ => lkQ_app1 _ _ _ hlk) (by rw [hlk]; simp)
  rcases List.mem_append.1 hq with hq | hq
  · exact h.map.oks q hq
  · rw [List.mem_singleton.1 hq]; exact hU
theorem full_any (S : Ml) : S.full = (decide (8 ≤ S.L.length) || decide (9223372036854775807 ≤ S.last)) := rfl
set_option maxHeartbeats 8000000 in
theorem madd_any (h : MlAt w b M f S) (ok : MlOk S) (t : Int) : Calls Try.prog 8 #[.pointer (some ⟨b, 0, none⟩), .int .i64 t] w fun e w' => e = .returned (.tuple #[.int .u64 (S.tm t).addN, .int .i64 (S.tm t).addE]) ∧ Hid (∃ f', MlO w b M f S (S.tm t).addS f' w') := by
  have hM := mmade_yes h
  have hG := mgo_any h t
  have ok1 := ok.tm t
  clear h ok
  generalize S.tm t = S1 at *
  unfold Ml.addN Ml.addE Ml.addS
  have hlenE : (ents f S1.L).length = S1.L.length := List.length_map ..
  cases hf : S1.full with
  | true =>
    simp only [if_true]
    rw [full_any] at hf
    have hd : (8 ≤ S1.L.length) ∨ (¬ 8 ≤ S1.L.length ∧ 9223372036854775807 ≤ S1.last) := by
      simp only [Bool.or_eq_true, decide_eq_true_eq] at hf
      omega
    clear hf
    obtain ⟨n1, hn1⟩ : ∃ n1, S1.L.length = n1 := ⟨_, rfl⟩
    rw [hn1] at hd hlenE
    rcases hd with h8 | ⟨h8, hm⟩
    · have d1 : decide ((8 : Int) ≤ (n1 : Int)) = true := decide_eq_true (by omega)
      clear h8
      go_enter Try.func8, Try.ntmps8
      go_wp2_with fail
      refine hM.mono ?_
      rintro e w1 ⟨rfl, rfl⟩
      go_wp2_with fail
      refine hG.mono ?_
      rintro e w2 ⟨rfl, H⟩
      have c2 := H.out.at'.cs.map
      have hlen := fun ty => H.out.at'.map.len ty
      rw [hlenE] at hlen
      have HF : Hid (∃ f', MlO w1 b M f S S1 f' w2) := ⟨f, H.out⟩
      clear hM hG H
      go_wp2
      go_ret2
      exact ⟨rfl, HF⟩
    · have d1 : decide ((8 : Int) ≤ (n1 : Int)) = false := decide_eq_false (by omega)
      have d2 : decide ((9223372036854775807 : Int) ≤ S1.last) = true := decide_eq_true hm
      clear h8 hm
      go_enter Try.func8, Try.ntmps8
      go_wp2_with fail
      refine hM.mono ?_
      rintro e w1 ⟨rfl, rfl⟩
      go_wp2_with fail
      refine hG.mono ?_
      rintro e w2 ⟨rfl, H⟩
      have c2 := H.out.at'.cs.map
      have c1 := H.out.at'.cs.last
      have hlen := fun ty => H.out.at'.map.len ty
      rw [hlenE] at hlen
      have HF : Hid (∃ f', MlO w1 b M f S S1 f' w2) := ⟨f, H.out⟩
      clear hM hG H hn1 hlenE
      generalize S1.last = la at *
      go_wp2
      go_ret2
      exact ⟨rfl, HF⟩
  | false =>
    simp only [Bool.false_eq_true, if_false]
    obtain ⟨l1, l2⟩ := ok1.lt hf
    have hla := ok1.last
    obtain ⟨n1, hn1⟩ : ∃ n1, S1.L.length = n1 := ⟨_, rfl⟩
    rw [hn1] at l1 hlenE
    have d1 : decide ((8 : Int) ≤ (n1 : Int)) = false := decide_eq_false (by omega)
    have d2 : decide ((9223372036854775807 : Int) ≤ S1.last) = false := decide_eq_false (by omega)
    have v1 : IntKind.u64.wrap (S1.last + 1) = S1.last + 1 := by rw [IntKind.wrap_u64]; omega
    have HS : Hid (∀ w2 : World, MlO w b M f S S1 f w2 → ∃ W3, W3 = (w2.setCell ⟨b, 1, none⟩ (.int .u64 (S1.last + 1))) ∧ (MlCs W3 b M { S1 with last := S1.last + 1 }) ∧
        (MlCs W3.drew b M { S1 with last := S1.last + 1 }) ∧ (∀ o : Obj, MlCs (W3.alloc o) b M { S1 with last := S1.last + 1 }) ∧ (∀ o : Obj, MlCs (W3.alloc o).drew b M { S1 with last := S1.last + 1 }) ∧ ∃ W5, (Instr.mapUpdate 59 (.map (some M)) (.int .u64 (S1.last + 1)) (.pointer (some ⟨W3.heap.size, 0, none⟩))).run Try.prog (W3.alloc (.cells #[.int .u64 (S1.last + 1), .int .i64 1, .int .u64 0, .int .i64 0, .int .i64 S1.now] 55)).drew = .ok () W5 ∧ (∃ f', MlO w b M f S S1.more f' W5) ∧ W5.cell? ⟨b, 1, none⟩ = some (.int .u64 (S1.last + 1))) := fun w2 h2 => by
      have h3 := MlO.boxed h2.at' (S' := { S1 with last := S1.last + 1 }) (k := 1) (u := .int .u64 (S1.last + 1)) rfl rfl
      obtain ⟨W5, hr, ho⟩ := h3.drew.at'.storing ok1 hf rfl
      exact ⟨_, rfl, h3.at'.cs, h3.drew.at'.cs, fun o => (h3.at'.below ((Below.refl _ _).alloc (Nat.le_refl _) o)).cs, fun o => (h3.drew.at'.below ((Below.refl _ _).alloc (Nat.le_refl _) o)).cs, W5, hr, ⟨_, (h2.trans h3.drew).trans ho⟩, ho.at'.cs.last⟩
    clear hn1 l1 l2 hla hf ok1
    go_enter Try.func8, Try.ntmps8
    go_wp2_with fail
    refine hM.mono ?_
    rintro e w1 ⟨rfl, rfl⟩
    go_wp2_with fail
    refine hG.mono ?_
    rintro e w2 ⟨rfl, H⟩
    have c2 := H.out.at'.cs.map
    have c1 := H.out.at'.cs.last
    have f1 := H.out.at'.fz 1
    have hlen := fun ty => H.out.at'.map.len ty
    rw [hlenE] at hlen
    obtain ⟨W3, hW3, k3, k4, k5, k6, W5, hst, HF0, z1⟩ := HS.out _ H.out
    have HF := hid HF0
    obtain ⟨a0, a1, a2⟩ := k3
    obtain ⟨b0, b1, b2⟩ := k4
    have e0 := fun o => (k5 o).now
    have e1 := fun o => (k5 o).last
    have e2 := fun o => (k5 o).map
    have g0 := fun o => (k6 o).now
    have g1 := fun o => (k6 o).last
    have g2 := fun o => (k6 o).map
    simp only at a0 a1 a2 b0 b1 b2 e0 e1 e2 g0 g1 g2
    clear hM hG H HS hlenE HF0 k5 k6
    generalize hla : S1.last = la at hW3 v1 d2 c1 a0 a1 a2 b0 b1 b2 e0 e1 e2 g0 g1 g2 hst z1
    have HLA := hid hla
    clear hla
    generalize S1.now = sn at *
    go_wp2_with fail
    rw [← hW3]
    clear hW3 c1 c2 f1 hlen d1 d2
    go_region
    go_wp2_with fail
    go_ret2
    exact ⟨by rw [HLA.out]; rfl, HF⟩
end Go.Proofs.Ytlhhkgjolilpiaa
