/-
  The stable sort's parts over elements of k cells: two neighbouring runs exchanged.
-/
import Derived.Test.YtmhpgkkaolcncaaRkSwp
namespace Go.Proofs.Ytmhpgkkaolcncaa
open Go.RowKit Go.Shelf Go.Sort Go.Lib
set_option linter.unusedVariables false
set_option maxRecDepth 1000000

theorem rot_gt {d d1 D : Array Cd} {m i j : Nat} (h : SwR d (m - i) m j d1) (hij : j < i) (him : i ≤ m) (q : RotR d1 (m - (i - j)) m (m + j) D) : RotR d (m - i) m (m + j) D := by
  refine ⟨q.size.trans h.size, fun x h1 h2 => ?_, fun x h1 h2 => ?_, fun x h1 => ?_⟩
  · rw [q.out x (by omega), h.at']
    repeat' split
    all_goals first | (exfalso; omega) | (congr 1; omega) | (congr 1)
  · by_cases h3 : x < m - (i - j) + (m + j - m)
    · rw [q.lo x (by omega) h3, h.at']
      repeat' split
      all_goals first | (exfalso; omega) | (congr 1; omega) | (congr 1)
    · rw [q.hi x (by omega) h2, h.at']
      repeat' split
      all_goals first | (exfalso; omega) | (congr 1; omega) | (congr 1)
  · rw [q.out x (by omega), h.at']
    repeat' split
    all_goals first | (exfalso; omega) | rfl | (congr 1; omega) | (congr 1)
theorem rot_lt {d d1 D : Array Cd} {m i j : Nat} (h : SwR d (m - i) (m + j - i) i d1) (hij : i < j) (him : i ≤ m) (q : RotR d1 (m - i) m (m + (j - i)) D) : RotR d (m - i) m (m + j) D := by
  refine ⟨q.size.trans h.size, fun x h1 h2 => ?_, fun x h1 h2 => ?_, fun x h1 => ?_⟩
  · by_cases h3 : x < m - i + (m + (j - i) - m)
    · rw [q.lo x (by omega) h3, h.at']
      repeat' split
      all_goals first | (exfalso; omega) | (congr 1; omega) | (congr 1)
    · by_cases h4 : x < m + (j - i)
      · rw [q.hi x (by omega) h4, h.at']
        repeat' split
        all_goals first | (exfalso; omega) | (congr 1; omega) | (congr 1)
      · rw [q.out x (by omega), h.at']
        repeat' split
        all_goals first | (exfalso; omega) | (congr 1; omega) | (congr 1)
  · rw [q.out x (by omega), h.at']
    repeat' split
    all_goals first | (exfalso; omega) | (congr 1; omega) | (congr 1)
  · rw [q.out x (by omega), h.at']
    repeat' split
    all_goals first | (exfalso; omega) | rfl | (congr 1; omega) | (congr 1)
theorem rot_eq {d D : Array Cd} {m i : Nat} (h : SwR d (m - i) m i D) (him : i ≤ m) : RotR d (m - i) m (m + i) D := by
  refine ⟨h.size, fun x h1 h2 => ?_, fun x h1 h2 => ?_, fun x h1 => ?_⟩
  all_goals
    rw [h.at']
    repeat' split
    all_goals first | (exfalso; omega) | rfl | (congr 1; omega) | (congr 1)
set_option maxHeartbeats 8000000 in
theorem rotate_any {P : Program} {k : Nat} (L : StP P k) {enc : Cd → List Value} {g : Nat} {cb : Array Value} {blk off cap a m b N : Nat} {d0 d : Array Cd} {w0 w : World} (R : RowK enc k w0 blk off d0) (hN : d.size = N) (hs : d0.size = N) (S : SWK enc k w0 blk off d w) (ham : a < m) (hmb : m < b) (hb : b ≤ N) (hsz : N ≤ 100000) :
    Calls P 44 #[.slice (some ⟨blk, off, none⟩) N cap, .int .i64 a, .int .i64 m, .int .i64 b, .func (.func g) #[] cb] w fun e w' => e = .returned (.tuple #[]) ∧ Hid (∃ d' : Array Cd, RotR d a m b d' ∧ SWK enc k w0 blk off d' w') := by
  have mixed := L.mixed; have t0 := L.t0; have a0 := L.a0; have z0 := L.z0; have v0 := L.v0; have t3 := L.t3; have a3 := L.a3; have z3 := L.z3; have v3 := L.v3; have t4 := L.t4; have a4 := L.a4; have z4 := L.z4; have v4 := L.v4; have tS := L.tS; have aS := L.aS; have zS := L.zS; have vS := L.vS; have tF := L.tF; have aF := L.aF; have zF := L.zF; have vF := L.vF; have aE := L.aE; have zE := L.zE
  have FG := L.fRo
  have eSw : ∀ args w, (callFunc 45 args).run P w = .ok (.enter 45 args) w := enters_of L.fSw (by kernel_rfl) rfl
  have HSw := hid fun (dk : Array Cd) (wk : World) (hk : dk.size = N) (Sk : SWK enc k w0 blk off dk wk) (a' b' n' : Nat) (h1 : a' + n' ≤ b') (h2 : b' + n' ≤ N) => swapRange_any (g := g) (cb := cb) (cap := cap) L R hk hs Sk h1 h2 hsz
  have S0 : Aside (SWK enc k w0 blk off d w ∧ d.size = N) := ⟨S, hN⟩
  clear S hN
  go_enter FG, Try.ntmps44
  go_wp2
  go_loopg [10, 11] (b - a) (fun kx s10 s11 wr => ∃ (i j : Nat) (dk : Array Cd), s10 = .int .i64 i ∧ s11 = .int .i64 j ∧ 0 < i ∧ 0 < j ∧ a + i ≤ m ∧ m + j ≤ b ∧ i + j ≤ kx ∧ Aside (dk.size = N ∧ ∀ D, RotR dk (m - i) m (m + j) D → RotR d a m b D) ∧ Aside (SWK enc k w0 blk off dk wr))
  case atStart => exact ⟨m - a, b - m, d, by go_num, by go_num, by omega, by omega, by omega, by omega, by omega, ⟨S0.out.2, fun D hD => by rwa [show m - (m - a) = a by omega, show m + (b - m) = b by omega] at hD⟩, S0.out.1⟩
  case round =>
    clear S0
    obtain ⟨i, j, dk, rfl, rfl, hi, hj, him, hjb, hkx, HD, S1⟩ := hrel
    have emi : (m : Int) - (i : Int) = ((m - i : Nat) : Int) := by omega
    by_cases he : i = j
    · subst he
      have hee : ¬ ((i : Int) ≠ (i : Int)) := by omega
      have hc := HSw.out dk wr HD.out.1 S1.out (m - i) m i (by omega) (by omega)
      go_wp2_with (go_at_fn 45; refine hc.mono ?_; rintro e w' ⟨rfl, H⟩)
      go_end0
      obtain ⟨d', h1, h2⟩ := H.out
      exact ⟨rfl, ⟨d', HD.out.2 d' (rot_eq h1 (by omega)), h2⟩⟩
    · have hee : (i : Int) ≠ (j : Int) := by omega
      by_cases hgt : j < i
      · have hgz : (j : Int) < (i : Int) := by omega
        have hc := HSw.out dk wr HD.out.1 S1.out (m - i) m j (by omega) (by omega)
        go_wp2_with (go_at_fn 45; refine hc.mono ?_; rintro e w' ⟨rfl, H⟩)
        obtain ⟨d', h1, h2⟩ := H.out
        go_roundg i
        case measure => omega
        case rel => exact ⟨i - j, j, d', by go_num, rfl, by omega, by omega, by omega, by omega, by omega, ⟨h1.size.trans HD.out.1, fun D hD => HD.out.2 D (rot_gt h1 hgt (by omega) hD)⟩, h2⟩
      · have hgz : ¬ (j : Int) < (i : Int) := by omega
        have hc := HSw.out dk wr HD.out.1 S1.out (m - i) (m + j - i) i (by omega) (by omega)
        have emj : (m : Int) + (j : Int) - (i : Int) = ((m + j - i : Nat) : Int) := by omega
        go_wp2_with (go_at_fn 45; refine hc.mono ?_; rintro e w' ⟨rfl, H⟩)
        obtain ⟨d', h1, h2⟩ := H.out
        go_roundg j
        case measure => omega
        case rel => exact ⟨i, j - i, d', rfl, by go_num, by omega, by omega, by omega, by omega, by omega, ⟨h1.size.trans HD.out.1, fun D hD => HD.out.2 D (rot_lt h1 (by omega) (by omega) hD)⟩, h2⟩
end Go.Proofs.Ytmhpgkkaolcncaa
