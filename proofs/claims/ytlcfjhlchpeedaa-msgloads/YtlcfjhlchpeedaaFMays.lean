/-
  Contract: msg.fieldMay tells whether what stands in the field of a letter may stand there.
-/
import Derived.Test.YtlcfjhlchpeedaaMsgs
namespace Go.Proofs.Ytlcfjhlchpeedaa
open Go.RowKit
open M
set_option linter.unusedVariables false
set_option maxRecDepth 1000000

/-- What is known of a message that lies in memory. -/
structure MsgIn (w : World) (m : Mg) (p q : Sl) : Prop where
  pr : Reads .i64 w p.a p.l p.c m.pr
  li : Reads .i64 w q.a q.l q.c m.li
  hp : p.l ≤ 1000
  hq : q.l ≤ 1000
theorem MsgIn.below {w w' : World} {m : Mg} {p q : Sl} (h : MsgIn w m p q) (hb : Below w.heap.size w w') : MsgIn w' m p q := ⟨h.pr.below hb, h.li.below hb, h.hp, h.hq⟩
theorem MsgIn.alloc {w : World} {m : Mg} {p q : Sl} (h : MsgIn w m p q) (o : Obj) : MsgIn (w.alloc o) m p q := h.below ((Below.refl _ _).alloc (Nat.le_refl _) _)

/-- What stands in the field of a letter may stand there. -/
def mayC (m : Mg) (c : Int) : Bool :=
  if c = 119 then decide (0 ≤ m.why ∧ m.why ≤ 255) else if c = 106 then decide (0 ≤ m.most ∧ m.most ≤ 256) && toksB m.pr else if c = 108 then toksB m.li else true

set_option maxHeartbeats 2000000 in
theorem fieldmay_any (m : Mg) (p q : Sl) (c : Int) (hc : Letter c) (w : World) (hm : MsgIn w m p q) :
    Calls Try.prog 32 #[.agg (MV m p q), .int .i32 c] w fun e w' => e = .returned (.bool (mayC m c)) ∧ Below w.heap.size w w' := by
  have hA := hm.alloc (.cells (MV m p q) 34)
  have hpr := hA.pr
  have hli := hA.li
  have h1 := hA.hp
  have h2 := hA.hq
  clear hA hm
  unfold MV at hpr hli
  rcases hc with rfl | rfl | rfl | rfl | rfl | rfl | rfl | rfl | rfl
  · unfold MV
    clear hpr hli
    go_enter Try.func32, Try.ntmps32
    go_wp2
    go_ret
    exact ⟨rfl, (Below.refl _ _).alloc (Nat.le_refl _) _⟩
  · unfold MV
    clear hpr hli
    go_enter Try.func32, Try.ntmps32
    go_wp2
    go_ret
    exact ⟨rfl, (Below.refl _ _).alloc (Nat.le_refl _) _⟩
  · unfold MV
    clear hpr hli
    go_enter Try.func32, Try.ntmps32
    go_wp2
    go_ret
    exact ⟨rfl, (Below.refl _ _).alloc (Nat.le_refl _) _⟩
  · unfold MV
    clear hpr hli
    go_enter Try.func32, Try.ntmps32
    go_wp2
    go_ret
    exact ⟨rfl, (Below.refl _ _).alloc (Nat.le_refl _) _⟩
  · unfold MV
    clear hpr hli
    go_enter Try.func32, Try.ntmps32
    go_wp2
    go_ret
    exact ⟨rfl, (Below.refl _ _).alloc (Nat.le_refl _) _⟩
  · unfold MV
    clear hpr hli
    go_enter Try.func32, Try.ntmps32
    go_wp2
    go_ret
    exact ⟨rfl, (Below.refl _ _).alloc (Nat.le_refl _) _⟩
  · unfold MV
    clear hpr hli
    go_enter Try.func32, Try.ntmps32
    go_wp2_with fail
    refine (between_any _ _ _).mono ?_
    rintro e w' ⟨rfl, rfl⟩
    go_wp2
    go_ret
    exact ⟨ret_bool (by simp [mayC]), (Below.refl _ _).alloc (Nat.le_refl _) _⟩
  · have hB := listmay_any _ _ _ _ _ hpr (by omega)
    unfold MV
    clear hpr hli
    by_cases hmo : 0 ≤ m.most ∧ m.most ≤ 256
    · have HD : Hid (mayC m 106 = toksB m.pr) := by unfold Hid mayC; simp [hmo]
      have hT := between_any m.most 256 (w.alloc (.cells (MV m p q) 34))
      rw [decide_eq_true hmo] at hT
      unfold MV at hT
      go_enter Try.func32, Try.ntmps32
      go_wp2_with fail
      refine hT.mono ?_
      rintro e w' ⟨rfl, rfl⟩
      go_wp2_with fail
      refine hB.mono ?_
      rintro e w' ⟨rfl, rfl⟩
      go_wp2
      go_ret
      exact ⟨ret_bool HD.out.symm, (Below.refl _ _).alloc (Nat.le_refl _) _⟩
    · have HD : Hid (mayC m 106 = false) := by unfold Hid mayC; simp [hmo]
      have hT := between_any m.most 256 (w.alloc (.cells (MV m p q) 34))
      rw [decide_eq_false hmo] at hT
      unfold MV at hT
      go_enter Try.func32, Try.ntmps32
      go_wp2_with fail
      refine hT.mono ?_
      rintro e w' ⟨rfl, rfl⟩
      go_wp2
      go_ret
      exact ⟨ret_bool HD.out.symm, (Below.refl _ _).alloc (Nat.le_refl _) _⟩
  · have hB := listmay_any _ _ _ _ _ hli (by omega)
    unfold MV
    clear hpr hli
    go_enter Try.func32, Try.ntmps32
    go_wp2_with fail
    refine hB.mono ?_
    rintro e w' ⟨rfl, rfl⟩
    go_wp2
    go_ret
    exact ⟨rfl, (Below.refl _ _).alloc (Nat.le_refl _) _⟩

/-- Two messages are the same. -/
def sameB (a b : Mg) : Bool := decide (a.kind = b.kind ∧ a.st = b.st ∧ a.se = b.se ∧ a.ate = b.ate ∧ a.inc = b.inc ∧ a.n = b.n ∧ a.cnt = b.cnt ∧ a.why = b.why ∧ a.seed = b.seed ∧ a.most = b.most ∧ a.pr = b.pr ∧ a.li = b.li)
theorem sameB_iff (a b : Mg) : sameB a b = true ↔ a = b := by
  unfold sameB
  rw [decide_eq_true_iff]
  constructor
  · rintro ⟨h0, h1, h2, h3, h4, h5, h6, h7, h8, h9, h10, h11⟩
    cases a; cases b; simp_all
  · rintro rfl
    simp

end Go.Proofs.Ytlcfjhlchpeedaa
