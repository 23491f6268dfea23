/-
  The statements' own probe (alive) hands back true: 'ab' sealed is opened, and the sum of '1234' and '56789' is CBF43926; nothing that was there turns.
-/
import Derived.Test.YtknhpeienllebaaOpens
import Derived.Lib.SlBytesConst
namespace Go.Proofs.Ytknhpeienllebaa
open Go.RowKit
open M
set_option linter.unusedVariables false

/-- Numbers in a new block. -/
theorem Reads.block (k : IntKind) (w : World) (xs : List Int) (t : TypeId) (h : xs.length ≤ 100000) :
    Reads k (w.alloc (.cells (xs.map (Value.int k)).toArray t (xs.length, xs.length + 1))) (some ⟨w.heap.size, 0, none⟩) xs.length xs.length xs :=
  ⟨rfl, Nat.le_refl _, by omega, (fun e => by cases e), fun i hi => ⟨w.heap.size, 0, rfl, (by
    have hn : (w.alloc (.cells (xs.map (Value.int k)).toArray t (xs.length, xs.length + 1))).heap[w.heap.size]? = some (.cells (xs.map (Value.int k)).toArray t (xs.length, xs.length + 1)) := by
      show (w.heap.push _)[w.heap.size]? = _
      simp
    unfold World.cell?
    rw [hn]
    simp [hi])⟩⟩

/-- Two parts, in a new block. -/
theorem Parts.two (w : World) (t : TypeId) {a a2 : Option Addr} {l c l2 c2 : Nat} {zs ys : List Int} (h : Reads .u8 w a l c zs) (h2 : Reads .u8 w a2 l2 c2 ys) (hz : IsBytes zs) (hy : IsBytes ys) :
    Parts (w.alloc (.cells #[.slice a l c, .slice a2 l2 c2] t)) (some ⟨w.heap.size, 0, none⟩) 2 2 [zs, ys] :=
  ⟨rfl, Nat.le_refl _, by omega, by intro y hm; simp at hm; rcases hm with rfl | rfl <;> assumption, fun i hi => by
    obtain rfl | rfl : i = 0 ∨ i = 1 := by omega
    · exact ⟨w.heap.size, 0, a, l, c, rfl, by simp, h.below ((Below.refl _ _).alloc (Nat.le_refl _) _)⟩
    · exact ⟨w.heap.size, 0, a2, l2, c2, rfl, by simp, h2.below ((Below.refl _ _).alloc (Nat.le_refl _) _)⟩⟩

theorem crc_probe : crc [49, 50, 51, 52, 53, 54, 55, 56, 57] = 3421780262 := by decide +kernel
theorem bytes_lit {xs : List Int} (h : xs.all (fun x => decide (0 ≤ x ∧ x ≤ 255)) = true) : IsBytes xs := by
  intro x hx
  exact of_decide_eq_true (List.all_eq_true.1 h x hx)

set_option maxHeartbeats 1000000 in
theorem alive_any (w : World) : Calls Try.prog 8 #[] w fun e w' => e = .returned (.bool true) ∧ Below w.heap.size w w' := by
  have hA : Reads .u8 (w.alloc (.cells #[.int .u8 97, .int .u8 98] 5 (2, 3))) (some ⟨w.heap.size, 0, none⟩) 2 2 [97, 98] := Reads.block .u8 w [97, 98] 5 (by simp)
  have hba : Below w.heap.size w (w.alloc (.cells #[.int .u8 97, .int .u8 98] 5 (2, 3))) := (Below.refl _ _).alloc (Nat.le_refl _) _
  have hS := seal_any _ 2 2 _ _ hA (bytes_lit rfl) (by omega)
  clear hA
  have kc := fun (w : World) (C : Array Value) (n c : Nat) => Lib.run_convert_bytes_const (P := Try.prog) w 24 5 C n c Try.underlying24 Try.underlying5
  go_enter Try.func8, Try.ntmps8
  go_wp2_with fail
  refine hS.mono ?_
  rintro e w1 ⟨v1, rfl, how1, hb1⟩
  have hb01 : Below w.heap.size w w1 := hba.trans (hb1.mono hba.size)
  obtain ⟨a, c, rfl, hr⟩ := Reads.own how1
  obtain ⟨b, off, rfl, _⟩ := hr.cell 0 (by omega)
  have hO := open_ok b off 2 c _ w1 hr ((bytes_lit (xs := [97, 98]) rfl).append (text_bytes _)) (by omega) (sealed_seal [97, 98])
  rw [show (([97, 98] : List Int) ++ text (crc [97, 98])).take 2 = [97, 98] from rfl] at hO
  clear hS hr how1 hb1
  go_wp2_with fail
  refine hO.mono ?_
  rintro e w2 ⟨v2, rfl, how2, hb2⟩
  have hb02 : Below w.heap.size w w2 := hb01.trans (hb2.mono hb01.size)
  obtain ⟨a2, c2, rfl, hr2⟩ := Reads.own how2
  have hB : Reads .u8 (w2.alloc (.cells #[.int .u8 49, .int .u8 50, .int .u8 51, .int .u8 52] 5 (4, 5))) (some ⟨w2.heap.size, 0, none⟩) 4 4 [49, 50, 51, 52] := Reads.block .u8 w2 [49, 50, 51, 52] 5 (by simp)
  have hbb : Below w2.heap.size w2 (w2.alloc (.cells #[.int .u8 49, .int .u8 50, .int .u8 51, .int .u8 52] 5 (4, 5))) := (Below.refl _ _).alloc (Nat.le_refl _) _
  generalize hw3 : w2.alloc (.cells #[.int .u8 49, .int .u8 50, .int .u8 51, .int .u8 52] 5 (4, 5)) = w3 at *
  have hC : Reads .u8 (w3.alloc (.cells #[.int .u8 53, .int .u8 54, .int .u8 55, .int .u8 56, .int .u8 57] 5 (5, 6))) (some ⟨w3.heap.size, 0, none⟩) 5 5 [53, 54, 55, 56, 57] := Reads.block .u8 w3 [53, 54, 55, 56, 57] 5 (by simp)
  have hbc : Below w3.heap.size w3 (w3.alloc (.cells #[.int .u8 53, .int .u8 54, .int .u8 55, .int .u8 56, .int .u8 57] 5 (5, 6))) := (Below.refl _ _).alloc (Nat.le_refl _) _
  have hP := sum_any _ 2 2 _ _ (Parts.two _ 24 (hB.below hbc) hC (bytes_lit rfl) (bytes_lit rfl)) (by omega) (by intro i; rcases i with _ | _ | i <;> simp <;> omega)
  rw [show [[49, 50, 51, 52], [53, 54, 55, 56, 57]].flatten = ([49, 50, 51, 52, 53, 54, 55, 56, 57] : List Int) from rfl, crc_probe] at hP
  subst hw3
  have hbd : Below w2.heap.size w2 (((w2.alloc (.cells #[.int .u8 49, .int .u8 50, .int .u8 51, .int .u8 52] 5 (4, 5))).alloc (.cells #[.int .u8 53, .int .u8 54, .int .u8 55, .int .u8 56, .int .u8 57] 5 (5, 6))).alloc (.cells #[.slice (some ⟨w2.heap.size, 0, none⟩) 4 4, .slice (some ⟨(w2.alloc (.cells #[.int .u8 49, .int .u8 50, .int .u8 51, .int .u8 52] 5 (4, 5))).heap.size, 0, none⟩) 5 5] 24)) :=
    (((Below.refl _ _).alloc (Nat.le_refl _) _).alloc (by simp) _).alloc (by simp; omega) _
  simp only [World.size_alloc] at hP hbd
  have kc2 := kc (w2.alloc (.cells #[.int .u8 49, .int .u8 50, .int .u8 51, .int .u8 52] 5 (4, 5))) #[.int .u8 53, .int .u8 54, .int .u8 55, .int .u8 56, .int .u8 57] 5 5
  simp only [World.size_alloc] at kc2
  clear hO hB hC hbb hbc how2 hb2
  go_wp2_with fail
  refine hP.mono ?_
  rintro e w5 ⟨rfl, hb5⟩
  have hb25 : Below w2.heap.size w2 w5 := hbd.trans (hb5.mono (by omega))
  have cv := (hr2.below hb25).conv (P := Try.prog) 24 9 5 Try.underlying24 Try.underlying5 Try.underlying9
  rw [show strOfNums [97, 98] = ⟨#[97, 98]⟩ from rfl] at cv
  clear hP hr2
  go_wp2
  go_ret
  exact ⟨rfl, hb02.trans (hb25.mono hb02.size)⟩

end Go.Proofs.Ytknhpeienllebaa
