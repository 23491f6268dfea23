/-
  What RankOnce keeps while it goes through the list.
-/
import Derived.Test.YtmhpgkkaolcncaaRkMap
import Derived.Test.YtmhpgkkaolcncaaRkLaw
namespace Go.Proofs.Ytmhpgkkaolcncaa
open Go.RowKit Go.Maps
set_option linter.unusedVariables false
set_option maxRecDepth 1000000

theorem own_notMap {base e size n : Nat} {v : Value} {xs : List Value} {w : World} (h : w.ownsRow base e size v n xs) {b : Nat} {es : Array MapEntry} {clock : Nat} (hb : w.heap[b]? = some (.map es clock)) : v.ownBlock ≠ some b := fun hv => by
  obtain ⟨cur, hc⟩ := own_ty h hv
  rw [hb] at hc
  cases hc
/-- The maps and the row of those gone through. -/
structure OnS (w : World) (l : List Cd) (Mo Mm k : Nat) (v : Value) (W : World) : Prop where
  op : BbAt W Mo k (memF (opnL (l.take k)))
  mt : BbAt W Mm k (memF ((l.take k).map Cd.rep))
  bk : OwC w.heap.size 36 W v (l.reverse.take k)
  lo : w.heap.size ≤ Mo
  lm : w.heap.size ≤ Mm
  ne : Mo ≠ Mm
  bel : RowKit.Below w.heap.size w W
theorem OnS.below {w : World} {l : List Cd} {Mo Mm k : Nat} {v : Value} {W W' : World} (h : OnS w l Mo Mm k v W) (hb : RowKit.Below W.heap.size W W') : OnS w l Mo Mm k v W' :=
  ⟨h.op.below hb, h.mt.below hb, own_below h.bk hb, h.lo, h.lm, h.ne, h.bel.trans (hb.mono h.bel.size)⟩
theorem OnS.new (w : World) (l : List Cd) : OnS w l w.heap.size (w.heap.size + 1) 0 (.slice none 0 0) ((w.alloc (.map #[] 0)).alloc (.map #[] 0)) := by
  have h1 := BbAt.new w
  have h2 := BbAt.new (w.alloc (.map #[] 0))
  rw [World.size_alloc] at h2
  have hb := (RowKit.Below.refl w.heap.size w).alloc (Nat.le_refl _) (.map #[] 0)
  refine ⟨?_, ?_, OwC.nil _ _ _, Nat.le_refl _, by omega, by omega, hb.alloc (by simp) _⟩
  · have := h1.below ((RowKit.Below.refl _ _).alloc (Nat.le_refl _) (.map #[] 0))
    have e : memF (opnL (l.take 0)) = fun _ => false := memF_nil
    rw [e]; exact this
  · have e : memF ((l.take 0).map Cd.rep) = fun _ => false := memF_nil
    rw [e]; exact h2
/-- One more, but for the row. -/
theorem OnS.turn {w : World} {l : List Cd} {Mo Mm k : Nat} {v : Value} {W : World} (h : OnS w l Mo Mm k v W) (hk : k < l.length) (hk60 : k ≤ 60) (hx : isU (ck l k).rep) :
    ∃ W8 W9, (Instr.mapUpdate 47 (.map (some Mm)) (.int .u64 (ck l k).rep) (.bool true)).run Try.prog W = .ok () W8 ∧
      (Instr.lookup 47 (.map (some Mo)) (.int .u64 (ck l k).rep) false).run Try.prog W8 = .ok (.bool (memF (opnL (l.take k)) (ck l k).rep)) W8 ∧
      (Instr.mapUpdate 47 (.map (some Mo)) (.int .u64 (ck l k).rep) (.bool (memF (opnL (l.take k)) (ck l k).rep || (ck l k).opn))).run Try.prog W8 = .ok () W9 ∧
      BbAt W9 Mo (k + 1) (memF (opnL (l.take (k + 1)))) ∧ BbAt W9 Mm (k + 1) (memF ((l.take (k + 1)).map Cd.rep)) ∧ OwC w.heap.size 36 W9 v (l.reverse.take k) ∧ RowKit.Below w.heap.size w W9 ∧
      (∀ g o, W.heap[g]? = some o → g ≠ Mo → g ≠ Mm → W8.heap[g]? = some o ∧ W9.heap[g]? = some o) := by
  have hs : l.take (k + 1) = l.take k ++ [ck l k] := by rw [List.take_add_one, ck_get hk]; rfl
  obtain ⟨W8, e8, m8, f8⟩ := h.mt.store (by omega) hx true
  have o8 := h.op.same (f8.block Mo h.op.lt fun e => h.ne e)
  obtain ⟨W9, e9, o9, f9⟩ := o8.store (by omega) hx (memF (opnL (l.take k)) (ck l k).rep || (ck l k).opn)
  obtain ⟨es1, c1, hm1⟩ := h.mt.blk
  obtain ⟨es2, c2, hm2⟩ := o8.blk
  have r8 : OwC w.heap.size 36 W8 v (l.reverse.take k) := own_blk h.bk fun b hb => f8.block b (h.bk.lt b hb).2 fun e => own_notMap h.bk hm1 (hb.trans (congrArg some (show b = Mm from e)))
  have r9 : OwC w.heap.size 36 W9 v (l.reverse.take k) := own_blk r8 fun b hb => f9.block b (World.ownsRow.lt r8 b hb).2 fun e => own_notMap r8 hm2 (hb.trans (congrArg some (show b = Mo from e)))
  have b8 : RowKit.Below w.heap.size w W8 := h.bel.trans (f8.to (fun x e => by rw [show x = Mm from e]; exact h.lm) h.bel.size)
  refine ⟨W8, W9, e8, o8.look hx, e9, ?_, ?_, r9, b8.trans (f9.to (fun x e => by rw [show x = Mo from e]; exact h.lo) b8.size), fun g o hg h1 h2 => ?_⟩
  · rw [hs, opnL_snoc]; exact o9
  · rw [hs, List.map_append, List.map_singleton, memF_snoc]
    exact m8.same (f9.block Mm m8.lt fun e => h.ne e.symm)
  · have q8 : W8.heap[g]? = some o := (f8.block g (lt_of_block hg) fun e => h2 e).trans hg
    exact ⟨q8, (f9.block g (lt_of_block q8) fun e => h1 e).trans q8⟩
/-- One more, with the row. -/
theorem OnS.fin {w : World} {l : List Cd} {Mo Mm k : Nat} {v v' : Value} {W W9 W' : World} (h : OnS w l Mo Mm k v W) (hk : k < l.length) (h1 : BbAt W9 Mo (k + 1) (memF (opnL (l.take (k + 1))))) (h2 : BbAt W9 Mm (k + 1) (memF ((l.take (k + 1)).map Cd.rep))) (h3 : OwC w.heap.size 36 W9 v (l.reverse.take k)) (h4 : RowKit.Below w.heap.size w W9) (o : Obj)
    (h5 : W'.ownsRow w.heap.size 36 6 v' (k + 1) (flatC (l.reverse.take k) ++ flatC [ck l (l.length - 1 - k)])) (h6 : (W9.alloc o).grownBy W' v.ownBlock) : OnS w l Mo Mm (k + 1) v' W' := by
  have hb := (RowKit.Below.refl W9.heap.size W9).alloc (Nat.le_refl _) o
  have h1' := h1.below hb
  have h2' := h2.below hb
  have h3' := own_below h3 hb
  obtain ⟨es1, c1, hm1⟩ := h1'.blk
  obtain ⟨es2, c2, hm2⟩ := h2'.blk
  refine ⟨h1'.same (h6.block Mo h1'.lt fun e => own_notMap h3' hm1 e.symm), h2'.same (h6.block Mm h2'.lt fun e => own_notMap h3' hm2 e.symm), ?_, h.lo, h.lm, h.ne, (h4.alloc h4.size o).grown h6 (h4.alloc h4.size o).size fun g hg => (h3'.lt g hg).1⟩
  unfold OwC
  rw [rev_take hk, List.length_append, flatC_app]
  have : (l.reverse.take k).length = k := by simp; omega
  rw [this]
  exact h5
theorem ord_isU {q : Wt} {l : List Cd} (h : ∀ c ∈ l, CdIn c) {x : Int} (hx : x ∈ (ordC q l).map Cd.rep) : isU x := by
  obtain ⟨c, h1, _, rfl⟩ := (ordC_mem q l x).1 hx
  exact (h c h1).rep
theorem ord_open {q : Wt} {l : List Cd} {x : Int} : x ∈ (ordC q l).map Cd.rep ↔ x ∈ opnL l := by
  rw [ordC_mem]
  unfold opnL
  simp only [List.mem_map, List.mem_filter]
  constructor
  · rintro ⟨c, h1, h2, h3⟩; exact ⟨c, ⟨h1, h2⟩, h3⟩
  · rintro ⟨c, ⟨h1, h2⟩, h3⟩; exact ⟨c, h1, h2, h3⟩
end Go.Proofs.Ytmhpgkkaolcncaa
