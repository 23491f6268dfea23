/-
  Package page: contracts of first and New.
-/
import Derived.Test.YtdmakboapchhnaaPgTurn
import Derived.Deep.RegionWith
namespace Go.Proofs.Ytdmakboapchhnaa
open Go.RowKit
set_option linter.unusedVariables false
set_option maxRecDepth 1000000

theorem make_intsF (w : World) (m : Nat) (hm : m ≤ 1001) : (Instr.makeSlice 51 (.int .i64 (m : Int)) (.int .i64 (m : Int))).run Try.prog w = .ok (.slice (some ⟨w.heap.size, 0, none⟩) m m) (w.alloc (.cells (madeCells #[.int .i64 0] m) 3)) := by
  obtain ⟨i0, hi, hz0, hz1, hz2⟩ := info_parts Try.info3
  have := run_make (P := Try.prog) w 51 3 i0 (.int .i64 0) Try.underlying51 hi hz0 .i64 .i64 (m : Int) (m : Int) (by omega) (Int.le_refl _) (by rw [hz2]; omega) (by omega)
  rw [this, hz1, Int.toNat_natCast, Nat.mul_one]
  rfl
theorem heap_upto (n : Nat) : HeapI (upto n) (upto n).length := by
  intro i h0 hi
  rw [upto_len] at hi
  unfold leI ltI gi
  rw [upto_at hi, upto_at (by omega)]
  omega
theorem rowK_upto (n : Nat) : rowK (fun i : Nat => (i : Int)) n = upto n := rfl
theorem pfirst_any (n : Nat) (w : World) (hn : n ≤ 256) : Calls Try.prog 22 #[.int .i64 n] w fun e w' => ∃ g, e = .returned (.slice (some ⟨g, 0, none⟩) n n) ∧ w.heap.size ≤ g ∧ OwnK 3 0 g n n (upto n) w' ∧ Below w.heap.size w w' := by
  have hmk := make_intsF w n (by omega)
  obtain ⟨w1, hw1⟩ : ∃ w1, w1 = w.alloc (.cells (madeCells #[.int .i64 0] n) 3) := ⟨_, rfl⟩
  rw [← hw1] at hmk
  obtain ⟨f, hf⟩ : ∃ f : Nat → Int, f = fun i : Nat => (i : Int) := ⟨_, rfl⟩
  have HO0 : Hid (OwnK 3 0 w.heap.size n n (rowK f 0 ++ List.replicate (n - 0) 0) w1) := by
    have := own_made 3 w n (by omega)
    unfold Hid
    rw [hw1]
    exact this.low (Nat.zero_le _)
  have HB0 : Hid (Below w.heap.size w w1) := by unfold Hid; rw [hw1]; exact (Below.refl _ _).alloc (Nat.le_refl _) _
  have HS : Hid (∀ k, k < n → (rowK f k ++ List.replicate (n - k) 0).set k (k : Int) = rowK f (k + 1) ++ List.replicate (n - (k + 1)) 0) := fun k hk => by
    have := rowK_set f hk
    rw [hf] at this ⊢
    exact this
  have HE : Hid (rowK f n ++ List.replicate (n - n) 0 = upto n) := by unfold Hid; rw [hf, rowK_upto]; simp
  clear hw1 hf
  go_enter Try.func22, Try.ntmps22
  go_wp2_with fail
  go_loopw [9] (fun i W => ∃ k : Nat, k ≤ n ∧ i = .int .i64 k ∧ Hid (OwnK 3 0 w.heap.size n n (rowK f k ++ List.replicate (n - k) 0) W) ∧ Hid (Below w.heap.size w W)) (fun i _ => n - (intOf i).toNat)
  case atStart => exact ⟨0, Nat.zero_le _, rfl, HO0, HB0⟩
  case round =>
  obtain ⟨k, hk, rfl, HO, HB⟩ := hrel
  rename World => wr
  by_cases hlt : k < n
  · have q1 : (k : Int) < (n : Int) := by omega
    have ck := HO.out.cell hlt
    have fk := HO.out.frozen k
    have HO2 : Hid (OwnK 3 0 w.heap.size n n (rowK f (k + 1) ++ List.replicate (n - (k + 1)) 0) (wr.setCell ⟨w.heap.size, k, none⟩ (.int .i64 (k : Int)))) := by unfold Hid; rw [← HS.out k hlt]; exact HO.out.set k k
    have HB2 : Hid (Below w.heap.size w (wr.setCell ⟨w.heap.size, k, none⟩ (.int .i64 (k : Int)))) := HB.out.setCell (Nat.le_refl _) _
    clear HO HB HS HE HO0 HB0 hmk
    go_wp2_with fail
    go_round
    case rel => exact ⟨k + 1, by omega, by go_num, HO2, HB2⟩
    case measure => simp [intOf]; omega
  · obtain rfl : k = n := by omega
    have HO2 : Hid (OwnK 3 0 w.heap.size k k (upto k) wr) := by unfold Hid; rw [← HE.out]; exact HO.out
    clear HO HS HE HO0 HB0 hmk
    go_wp2
    go_ret
    exact ⟨_, rfl, Nat.le_refl _, HO2.out, HB.out⟩
theorem pnew_no (n : Int) (w : World) (hn : n < 1 ∨ 256 < n) : Calls Try.prog 6 #[.int .i64 n] w fun e w' => e = .returned (.tuple #[.pointer none, .int .i64 1]) ∧ Below w.heap.size w w' := by
  by_cases h1 : n < 1
  · clear hn
    go_enter Try.func6, Try.ntmps6
    go_wp2
    go_ret2
    exact ⟨rfl, Below.refl _ _⟩
  · have h2 : 256 < n := by omega
    clear hn
    go_enter Try.func6, Try.ntmps6
    go_wp2
    go_ret2
    exact ⟨rfl, Below.refl _ _⟩
/-- Two rows, and the pool over them. -/
theorem pg_new {w W : World} {b g n : Nat} (h0 : 1 ≤ n) (h1 : n ≤ 256) (hb : OwnK 3 0 b n n (List.replicate n 0) W) (hg : OwnK 3 0 g n n (upto n) W) (hn : b ≠ g) (lb : w.heap.size ≤ b) (lg : w.heap.size ≤ g) (hW : Below w.heap.size w W) :
    PgAt (W.alloc (.cells #[.slice (some ⟨b, 0, none⟩) n n, .slice (some ⟨g, 0, none⟩) n n] 53)) (some ⟨W.heap.size, 0, none⟩) (List.replicate n 0) (at3 W.heap.size b g) ∧ (∀ k, at3 W.heap.size b g k → w.heap.size ≤ k) ∧ Below w.heap.size w (W.alloc (.cells #[.slice (some ⟨b, 0, none⟩) n n, .slice (some ⟨g, 0, none⟩) n n] 53)) := by
  have hB : Below W.heap.size W (W.alloc (.cells #[.slice (some ⟨b, 0, none⟩) n n, .slice (some ⟨g, 0, none⟩) n n] 53)) := (Below.refl _ _).alloc (Nat.le_refl _) _
  have b1 := hb.lt
  have g1 := hg.lt
  have s1 := hW.size
  have hP : PgB (W.alloc (.cells #[.slice (some ⟨b, 0, none⟩) n n, .slice (some ⟨g, 0, none⟩) n n] 53)) W.heap.size b g n (List.replicate n 0) (upto n) := by
    refine ⟨?_, hb.stays hB, ?_, by omega, by omega, hn, heap_upto n, free_new n⟩
    · rw [upto_len]; exact heap_alloc_new W _
    · rw [upto_len]; exact hg.stays hB
  refine ⟨hP.at (okp_new h0 h1), ?_, hW.trans (hB.mono s1)⟩
  rintro k (rfl | rfl | rfl) <;> omega
/-- What New leaves. -/
def NewG (w : World) (n B : Nat) (W : World) : Prop := ∃ F, PgAt W (some ⟨B, 0, none⟩) (List.replicate n 0) F ∧ (∀ k, F k → w.heap.size ≤ k) ∧ Below w.heap.size w W
theorem pg_newA {w w2 : World} {g n : Nat} (h0 : 1 ≤ n) (h1 : n ≤ 256) (lg : (w.alloc (.cells (madeCells #[.int .i64 0] n) 3)).drew.heap.size ≤ g) (hO : OwnK 3 0 g n n (upto n) w2)
    (hb : Below (w.alloc (.cells (madeCells #[.int .i64 0] n) 3)).drew.heap.size (w.alloc (.cells (madeCells #[.int .i64 0] n) 3)).drew w2) :
    NewG w n w2.heap.size (w2.alloc (.cells #[.slice (some ⟨w.heap.size, 0, none⟩) n n, .slice (some ⟨g, 0, none⟩) n n] 53)) := by
  have hM : OwnK 3 0 w.heap.size n n (List.replicate n 0) (w.alloc (.cells (madeCells #[.int .i64 0] n) 3)).drew := (own_made 3 w n (by omega)).low (Nat.zero_le _)
  have hS : (w.alloc (.cells (madeCells #[.int .i64 0] n) 3)).drew.heap.size = w.heap.size + 1 := World.size_alloc _ _
  have hB : Below w.heap.size w (w.alloc (.cells (madeCells #[.int .i64 0] n) 3)).drew := ((Below.refl _ _).alloc (Nat.le_refl _) _).drew
  obtain ⟨a1, a2, a3⟩ := pg_new h0 h1 (hM.stays hb) hO (by omega) (Nat.le_refl _) (by omega) (hB.trans (hb.mono hB.size))
  exact ⟨_, a1, a2, a3⟩
theorem pg_newB {w w2 : World} {g n : Nat} (h0 : 1 ≤ n) (h1 : n ≤ 256) (lg : w.drew.heap.size ≤ g) (hO : OwnK 3 0 g n n (upto n) w2) (hb : Below w.drew.heap.size w.drew w2) :
    NewG w n (w2.heap.size + 1) ((w2.alloc (.cells (madeCells #[.int .i64 0] n) 3)).alloc (.cells #[.slice (some ⟨w2.heap.size, 0, none⟩) n n, .slice (some ⟨g, 0, none⟩) n n] 53)) := by
  have hM : OwnK 3 0 w2.heap.size n n (List.replicate n 0) (w2.alloc (.cells (madeCells #[.int .i64 0] n) 3)) := (own_made 3 w2 n (by omega)).low (Nat.zero_le _)
  have hS : (w2.alloc (.cells (madeCells #[.int .i64 0] n) 3)).heap.size = w2.heap.size + 1 := World.size_alloc _ _
  have hB0 : Below w.heap.size w w2 := (Below.refl _ _).drew.trans hb
  have hB : Below w2.heap.size w2 (w2.alloc (.cells (madeCells #[.int .i64 0] n) 3)) := (Below.refl _ _).alloc (Nat.le_refl _) _
  have lt := hO.lt
  obtain ⟨a1, a2, a3⟩ := pg_new h0 h1 hM (hO.stays hB) (by omega) hB0.size lg (hB0.trans (hB.mono hB0.size))
  rw [hS] at a1 a2
  exact ⟨_, a1, a2, a3⟩
theorem pnew_yes (n : Nat) (w : World) (h0 : 1 ≤ n) (h1 : n ≤ 256) : Calls Try.prog 6 #[.int .i64 n] w fun e w' => ∃ g F, e = .returned (.tuple #[.pointer (some ⟨g, 0, none⟩), .int .i64 0]) ∧ PgAt w' (some ⟨g, 0, none⟩) (List.replicate n 0) F ∧ (∀ k, F k → w.heap.size ≤ k) ∧ Below w.heap.size w w' := by
  have q1 : ¬ (n : Int) < 1 := by omega
  have q2 : ¬ (256 : Int) < (n : Int) := by omega
  have hmk := fun (W : World) => make_intsI W n (by omega)
  have HF := hid fun (W : World) => pfirst_any n W h1
  go_enter Try.func6, Try.ntmps6
  go_wp2_with fail
  go_region_with (go_at_call 22; refine (HF.out _).mono ?_; rintro e w2 ⟨g, rfl, lg, hO, hb⟩; have HO := hid hO; have HB := hid hb; have LG := hid lg; clear hO hb lg)
  · go_wp2_with fail
    obtain ⟨F, a1, a2, a3⟩ := pg_newA h0 h1 LG.out HO.out HB.out
    clear hmk HF HO HB LG
    go_ret2
    exact ⟨_, F, rfl, a1, a2, a3⟩
  · go_wp2_with fail
    obtain ⟨F, a1, a2, a3⟩ := pg_newB h0 h1 LG.out HO.out HB.out
    clear hmk HF HO HB LG
    go_ret2
    exact ⟨_, F, rfl, a1, a2, a3⟩
end Go.Proofs.Ytdmakboapchhnaa
