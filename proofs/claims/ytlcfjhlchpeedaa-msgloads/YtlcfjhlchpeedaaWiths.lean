/-
  Contract: msg.without hands back the message with the field of a letter put to 0.
-/
import Derived.Test.YtlcfjhlchpeedaaMsgs
namespace Go.Proofs.Ytlcfjhlchpeedaa
open Go.RowKit
open M
set_option linter.unusedVariables false
set_option maxRecDepth 1000000

/-- The message with the field of a letter put to 0. -/
def wo (m : Mg) (c : Int) : Mg :=
  if c = 115 then { m with st := 0 } else if c = 101 then { m with se := 0 } else if c = 97 then { m with ate := 0 } else if c = 105 then { m with inc := 0 } else if c = 110 then { m with n := 0 }
  else if c = 99 then { m with cnt := 0 } else if c = 119 then { m with why := 0 } else if c = 106 then { m with seed := 0, most := 0, pr := [] } else if c = 108 then { m with li := [] } else m
/-- The Prompt's slice and the List's, of that. -/
def woP (p : Sl) (c : Int) : Sl := if c = 106 then ⟨none, 0, 0⟩ else p
def woQ (q : Sl) (c : Int) : Sl := if c = 108 then ⟨none, 0, 0⟩ else q

set_option maxHeartbeats 2000000 in
theorem without_any (m : Mg) (p q : Sl) (c : Int) (hc : Letter c) (w : World) : Calls Try.prog 33 #[.agg (MV m p q), .int .i32 c] w fun e w' => e = .returned (.agg (MV (wo m c) (woP p c) (woQ q c))) ∧ Below w.heap.size w w' := by
  rcases hc with rfl | rfl | rfl | rfl | rfl | rfl | rfl | rfl | rfl
  · unfold MV
    go_enter Try.func33, Try.ntmps33
    go_wp2
    refine bodyPost_ret (v := .agg (MV (wo m 115) (woP p 115) (woQ q 115))) ?_ rfl ⟨rfl, ?_⟩
    · simp [results, Try.results33, go_sem, MV, wo, woP, woQ]
    · exact ((Below.refl _ _).alloc (Nat.le_refl _) _).alloc (by simp) _
  · unfold MV
    go_enter Try.func33, Try.ntmps33
    go_wp2
    refine bodyPost_ret (v := .agg (MV (wo m 101) (woP p 101) (woQ q 101))) ?_ rfl ⟨rfl, ?_⟩
    · simp [results, Try.results33, go_sem, MV, wo, woP, woQ]
    · exact ((Below.refl _ _).alloc (Nat.le_refl _) _).alloc (by simp) _
  · unfold MV
    go_enter Try.func33, Try.ntmps33
    go_wp2
    refine bodyPost_ret (v := .agg (MV (wo m 97) (woP p 97) (woQ q 97))) ?_ rfl ⟨rfl, ?_⟩
    · simp [results, Try.results33, go_sem, MV, wo, woP, woQ]
    · exact ((Below.refl _ _).alloc (Nat.le_refl _) _).alloc (by simp) _
  · unfold MV
    go_enter Try.func33, Try.ntmps33
    go_wp2
    refine bodyPost_ret (v := .agg (MV (wo m 105) (woP p 105) (woQ q 105))) ?_ rfl ⟨rfl, ?_⟩
    · simp [results, Try.results33, go_sem, MV, wo, woP, woQ]
    · exact ((Below.refl _ _).alloc (Nat.le_refl _) _).alloc (by simp) _
  · unfold MV
    go_enter Try.func33, Try.ntmps33
    go_wp2
    refine bodyPost_ret (v := .agg (MV (wo m 110) (woP p 110) (woQ q 110))) ?_ rfl ⟨rfl, ?_⟩
    · simp [results, Try.results33, go_sem, MV, wo, woP, woQ]
    · exact ((Below.refl _ _).alloc (Nat.le_refl _) _).alloc (by simp) _
  · unfold MV
    go_enter Try.func33, Try.ntmps33
    go_wp2
    refine bodyPost_ret (v := .agg (MV (wo m 99) (woP p 99) (woQ q 99))) ?_ rfl ⟨rfl, ?_⟩
    · simp [results, Try.results33, go_sem, MV, wo, woP, woQ]
    · exact ((Below.refl _ _).alloc (Nat.le_refl _) _).alloc (by simp) _
  · unfold MV
    go_enter Try.func33, Try.ntmps33
    go_wp2
    refine bodyPost_ret (v := .agg (MV (wo m 119) (woP p 119) (woQ q 119))) ?_ rfl ⟨rfl, ?_⟩
    · simp [results, Try.results33, go_sem, MV, wo, woP, woQ]
    · exact ((Below.refl _ _).alloc (Nat.le_refl _) _).alloc (by simp) _
  · unfold MV
    go_enter Try.func33, Try.ntmps33
    go_wp2
    refine bodyPost_ret (v := .agg (MV (wo m 106) (woP p 106) (woQ q 106))) ?_ rfl ⟨rfl, ?_⟩
    · simp [results, Try.results33, go_sem, MV, wo, woP, woQ]
    · exact ((Below.refl _ _).alloc (Nat.le_refl _) _).alloc (by simp) _
  · unfold MV
    go_enter Try.func33, Try.ntmps33
    go_wp2
    refine bodyPost_ret (v := .agg (MV (wo m 108) (woP p 108) (woQ q 108))) ?_ rfl ⟨rfl, ?_⟩
    · simp [results, Try.results33, go_sem, MV, wo, woP, woQ]
    · exact ((Below.refl _ _).alloc (Nat.le_refl _) _).alloc (by simp) _

end Go.Proofs.Ytlcfjhlchpeedaa
