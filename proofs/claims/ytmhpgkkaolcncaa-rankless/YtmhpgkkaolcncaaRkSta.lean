/-
  The stable sort over elements of k cells: at most 60 of them.
-/
import Derived.Test.YtmhpgkkaolcncaaRkSym3
namespace Go.Proofs.Ytmhpgkkaolcncaa
open Go.RowKit Go.Shelf Go.Sort Go.Lib
set_option linter.unusedVariables false
set_option maxRecDepth 1000000

theorem symMerge_any {P : Program} {k : Nat} (L : StP P k) {enc : Cd → List Value} {q : Wt} {cf : Cd → Cd → Int} {g : Nat} {cb : Array Value} {blk off cap N : Nat} {d0 : Array Cd} {w0 : World} (R : RowK enc k w0 blk off d0) (hs : d0.size = N)
    (eg : ∀ args w, (callFunc g args).run P w = .ok (.enter g args) w) (hcmp : CmpLays P g cb enc k cf blk off N w0) (hcf : ∀ x y, decide (cf x y < 0) = bet q x y) (hsz : N ≤ 100000) (fuel : Nat) : ∀ (a m b : Nat) (d : Array Cd) (w : World), b - a ≤ fuel → a < m → m < b → b ≤ N → d.size = N → SrI q d a m → SrI q d m b → SWK enc k w0 blk off d w →
    Calls P 40 #[.slice (some ⟨blk, off, none⟩) N cap, .int .i64 a, .int .i64 m, .int .i64 b, .func (.func g) #[] cb] w fun e w' => e = .returned (.tuple #[]) ∧ Hid (∃ d' : Array Cd, (Kp q d d' a b ∧ SrI q d' a b) ∧ SWK enc k w0 blk off d' w') := by
  induction fuel using Nat.strongRecOn with
  | ind fuel ih =>
  intro a m b d w hfuel ham hmb hb hN h1 h2 S
  by_cases hA : m - a = 1
  · exact sym_A L R hs eg hcmp hcf hsz a m b d w hA ham hmb hb hN h1 h2 S
  · by_cases hB : b - m = 1
    · exact sym_B L R hs eg hcmp hcf hsz a m b d w hA hB ham hmb hb hN h1 h2 S
    · exact sym_C L R hs eg hcmp hcf hsz a m b d w hA hB (fun a' m' b' d' w' q1 q2 q3 q4 q5 q6 q7 q8 => ih (b' - a') (by omega) a' m' b' d' w' (Nat.le_refl _) q2 q3 q4 q5 q6 q7 q8) ham hmb hb hN h1 h2 S
/-- The blocks of twenty that are in order. -/
def Blk (q : Wt) (d : Array Cd) (t : Nat) : Prop := ∀ u, u < t → SrI q d (20 * u) (20 * u + 20)
theorem Blk.next {q : Wt} {d d' : Array Cd} {t b : Nat} (h : Blk q d t) (hk : Kp q d d' (20 * t) b) : Blk q d' t := fun u hu => hk.sr (h u hu) (.inl (by omega))
/-- How far the merging is. -/
def Mrg (q : Wt) (d : Array Cd) (N bs : Nat) : Prop :=
  (bs = 20 ∧ SrI q d 0 (min 20 N) ∧ SrI q d 20 (min 40 N) ∧ SrI q d 40 N) ∨ (bs = 40 ∧ SrI q d 0 (min 40 N) ∧ SrI q d 40 N) ∨ (bs = 80 ∧ SrI q d 0 N)
theorem Mrg.start {q : Wt} {d : Array Cd} {N t : Nat} (h : Blk q d t) (hl : SrI q d (20 * t) N) (ht : 20 * t ≤ N) (hN : N < 20 * t + 20) (h60 : N ≤ 60) : Mrg q d N 20 := by
  refine .inl ⟨rfl, ?_, ?_, ?_⟩
  · rcases Nat.eq_zero_or_pos t with rfl | h0
    · intro i j q1 q2 q3; exact hl i j (by omega) q2 (by omega)
    · intro i j q1 q2 q3; exact h 0 h0 i j (by omega) q2 (by omega)
  · rcases Nat.lt_or_ge 1 t with h0 | h0
    · intro i j q1 q2 q3; exact h 1 h0 i j (by omega) q2 (by omega)
    · intro i j q1 q2 q3; exact hl i j (by omega) q2 (by omega)
  · rcases Nat.lt_or_ge 2 t with h0 | h0
    · intro i j q1 q2 q3; exact h 2 h0 i j (by omega) q2 (by omega)
    · intro i j q1 q2 q3; exact hl i j (by omega) q2 (by omega)
theorem SrI.to {q : Wt} {d : Array Cd} {a b b' : Nat} (h : SrI q d a b) (e : b = b') : SrI q d a b' := e ▸ h
set_option maxHeartbeats 16000000 in
theorem stable_any {P : Program} {k : Nat} (L : StP P k) {enc : Cd → List Value} {q : Wt} {cf : Cd → Cd → Int} {g : Nat} {cb : Array Value} {blk off cap N : Nat} {d : Array Cd} {w : World} (R : RowK enc k w blk off d) (hN : d.size = N)
    (eg : ∀ args w, (callFunc g args).run P w = .ok (.enter g args) w) (hcmp : CmpLays P g cb enc k cf blk off N w) (hcf : ∀ x y, decide (cf x y < 0) = bet q x y) (h60 : N ≤ 60) :
    Calls P 32 #[.slice (some ⟨blk, off, none⟩) N cap, .int .i64 N, .func (.func g) #[] cb] w fun e w' => e = .returned (.tuple #[]) ∧ Hid (∃ d' : Array Cd, (Kp q d d' 0 N ∧ SrI q d' 0 N) ∧ SWK enc k w blk off d' w') := by
  have mixed := L.mixed; have t0 := L.t0; have a0 := L.a0; have z0 := L.z0; have v0 := L.v0; have t3 := L.t3; have a3 := L.a3; have z3 := L.z3; have v3 := L.v3; have t4 := L.t4; have a4 := L.a4; have z4 := L.z4; have v4 := L.v4; have tS := L.tS; have aS := L.aS; have zS := L.zS; have vS := L.vS; have tF := L.tF; have aF := L.aF; have zF := L.zF; have vF := L.vF; have aE := L.aE; have zE := L.zE
  have FG := L.fSt
  have eIn : ∀ args w, (callFunc 39 args).run P w = .ok (.enter 39 args) w := enters_of L.fIn (by kernel_rfl) rfl
  have eSy : ∀ args w, (callFunc 40 args).run P w = .ok (.enter 40 args) w := enters_of L.fSy (by kernel_rfl) rfl
  have HIn := hid fun (a b : Nat) (dk : Array Cd) (wk : World) (hk : dk.size = N) (Sk : SWK enc k w blk off dk wk) (h1 : a ≤ b) (h2 : b ≤ N) => insert_any (g := g) (cb := cb) (cap := cap) (q := q) L R hk hN Sk eg hcmp hcf h1 h2 (by omega)
  have HSy := hid fun (a m b : Nat) (dk : Array Cd) (wk : World) (q1 : a < m) (q2 : m < b) (q3 : b ≤ N) (q4 : dk.size = N) (q5 : SrI q dk a m) (q6 : SrI q dk m b) (q7 : SWK enc k w blk off dk wk) => symMerge_any (g := g) (cb := cb) (cap := cap) (q := q) L R hN eg hcmp hcf (by omega) (b - a) a m b dk wk (Nat.le_refl _) q1 q2 q3 q4 q5 q6 q7
  have S0 : Aside (SWK enc k w blk off d w) := SWK.start R.hH
  have HN : Aside (d.size = N) := hN
  clear hcmp hcf hN
  go_enter FG, Try.ntmps32
  go_wp2_with fail
  go_loopg [7, 8] 4 (fun kx s7 s8 wr => ∃ (t a b : Nat) (dk : Array Cd), s7 = .int .i64 a ∧ s8 = .int .i64 b ∧ Hid (a = 20 * t ∧ b = 20 * t + 20) ∧ t ≤ 3 ∧ a ≤ N ∧ 4 - t ≤ kx ∧ Aside (Kp q d dk 0 N ∧ Blk q dk t) ∧ Aside (SWK enc k w blk off dk wr))
  case atStart => exact ⟨0, 0, 20, d, rfl, rfl, ⟨rfl, rfl⟩, by omega, by omega, by omega, ⟨Kp.refl q d 0 N, fun u hu => by omega⟩, S0⟩
  case round =>
    clear S0
    obtain ⟨t, a, b, dk, rfl, rfl, HAB, ht, htN, hkx, HI, S1⟩ := hrel
    have hdk : dk.size = N := HI.out.1.size.trans HN.out
    have hab : a ≤ b := by have := HAB.out; omega
    by_cases hlt : b ≤ N
    · have hltz : (b : Int) ≤ (N : Int) := by omega
      have hcc := HIn.out a b dk wr hdk S1.out (by omega) hlt
      have ht2 : t + 1 ≤ 3 := by have := HAB.out; omega
      go_wp2_with (go_at_fn 39; refine hcc.mono ?_; rintro e w' ⟨rfl, H⟩)
      obtain ⟨d', ⟨k1, r1⟩, hS⟩ := H.out
      go_roundg (4 - (t + 1))
      case measure => omega
      case rel =>
        refine ⟨t + 1, b, b + 20, d', rfl, by go_num, (by have := HAB.out; exact ⟨by omega, by omega⟩), ht2, hlt, Nat.le_refl _, ⟨HI.out.1.trans (k1.wide (by omega) (by omega)), fun u hu => ?_⟩, hS⟩
        have q1 := HAB.out
        by_cases hut : u = t
        · rw [hut, ← q1.1, show a + 20 = b by omega]
          exact r1
        · exact (HI.out.2.next (by rw [← q1.1]; exact k1)) u (by omega)
    · have hltz : ¬ (b : Int) ≤ (N : Int) := by omega
      have hcc := HIn.out a N dk wr hdk S1.out (by omega) (Nat.le_refl _)
      go_wp2_with (go_at_fn 39; refine hcc.mono ?_; rintro e w' ⟨rfl, H⟩)
      obtain ⟨d', ⟨k1, r1⟩, hS⟩ := H.out
      have HM : Aside (Kp q d d' 0 N ∧ Mrg q d' N 20) := ⟨HI.out.1.trans (k1.wide (by omega) (Nat.le_refl _)), by
        have q1 := HAB.out
        exact Mrg.start (t := t) (HI.out.2.next (by rw [← q1.1]; exact k1)) (by rw [← q1.1]; exact r1) (by omega) (by omega) h60⟩
      have S2 : Aside (SWK enc k w blk off d' w') := hS
      clear hS r1 k1 H S1 HI hcc HAB
      go_loopg [6, 7, 8, 9] 3 (fun kx s6 s7 s8 s9 wr => ∃ (bs : Nat) (dk : Array Cd), s6 = .int .i64 bs ∧ 20 ≤ bs ∧ bs ≤ 80 ∧ Hid (bs = 20 ∧ kx = 3 ∨ bs = 40 ∧ 2 ≤ kx ∨ bs = 80 ∧ 1 ≤ kx) ∧ Aside (Kp q d dk 0 N ∧ Mrg q dk N bs) ∧ Aside (SWK enc k w blk off dk wr))
      case atStart => exact ⟨20, d', rfl, by omega, by omega, .inl ⟨rfl, rfl⟩, HM, S2⟩
      case round =>
        clear HM S2
        obtain ⟨bs, dk, rfl, hb1, hb2, HB, HI, S1⟩ := hrel
        have hdk : dk.size = N := HI.out.1.size.trans HN.out
        by_cases hbN : bs < N
        · have hbNz : (bs : Int) < (N : Int) := by omega
          by_cases h20 : bs = 20
          · have H20 : Aside (SrI q dk 0 20 ∧ SrI q dk 20 (min 40 N) ∧ SrI q dk 40 N) := by
              rcases HI.out.2 with h | h | h
              · exact ⟨h.2.1.to (by omega), h.2.2⟩
              · omega
              · omega
            subst h20
            have hk3 : 2 < gk := by have := HB.out; omega
            clear HB
            by_cases hN40 : 40 ≤ N
            · have hz : (40 : Int) ≤ (N : Int) := by omega
              have hz2 : ¬ (80 : Int) ≤ (N : Int) := by omega
              have hz3 : ¬ (60 : Int) < (N : Int) := by omega
              have hcc : Calls P 40 #[.slice (some ⟨blk, off, none⟩) N cap, .int .i64 0, .int .i64 20, .int .i64 40, .func (.func g) #[] cb] wr _ := HSy.out 0 20 40 dk wr (by omega) (by omega) hN40 hdk H20.out.1 (H20.out.2.1.to (by omega)) S1.out
              go_wp2_with fail
              refine wp_loop_rounds 2 ?_
              rw [rounds_succ]
              go_wp2_with (go_at_fn 40; refine hcc.mono ?_; rintro e w' ⟨rfl, H⟩)
              rw [rounds_succ]
              go_wp2_with fail
              obtain ⟨d2, ⟨k1, r1⟩, hS⟩ := H.out
              go_roundg 2
              case measure => omega
              case rel => exact ⟨40, d2, rfl, by omega, by omega, .inr (.inl ⟨rfl, by omega⟩), ⟨HI.out.1.trans (k1.wide (by omega) (by omega)), .inr (.inl ⟨rfl, r1.to (by omega), k1.sr H20.out.2.2 (.inr (by omega))⟩)⟩, hS⟩
            · have hz : ¬ (40 : Int) ≤ (N : Int) := by omega
              have hz2 : (20 : Int) < (N : Int) := by omega
              have hcc : Calls P 40 #[.slice (some ⟨blk, off, none⟩) N cap, .int .i64 0, .int .i64 20, .int .i64 N, .func (.func g) #[] cb] wr _ := HSy.out 0 20 N dk wr (by omega) (by omega) (Nat.le_refl _) hdk H20.out.1 (H20.out.2.1.to (by omega)) S1.out
              go_wp2_with fail
              refine wp_loop_rounds 1 ?_
              rw [rounds_succ]
              go_wp2_with (go_at_fn 40; refine hcc.mono ?_; rintro e w' ⟨rfl, H⟩)
              obtain ⟨d2, ⟨k1, r1⟩, hS⟩ := H.out
              go_roundg 2
              case measure => omega
              case rel => exact ⟨40, d2, rfl, by omega, by omega, .inr (.inl ⟨rfl, by omega⟩), ⟨HI.out.1.trans k1, .inr (.inl ⟨rfl, r1.to (by omega), fun i j q1 q2 q3 => by omega⟩)⟩, hS⟩
          · have H40 : Aside (bs = 40 ∧ SrI q dk 0 40 ∧ SrI q dk 40 N) := by
              rcases HI.out.2 with h | h | h
              · omega
              · exact ⟨h.1, h.2.1.to (by omega), h.2.2⟩
              · omega
            obtain rfl : bs = 40 := H40.out.1
            have hk3 : 1 < gk := by have := HB.out; omega
            clear HB
            have hz : (40 : Int) < (N : Int) := by omega
            have hz2 : ¬ (80 : Int) ≤ (N : Int) := by omega
            have hcc : Calls P 40 #[.slice (some ⟨blk, off, none⟩) N cap, .int .i64 0, .int .i64 40, .int .i64 N, .func (.func g) #[] cb] wr _ := HSy.out 0 40 N dk wr (by omega) (by omega) (Nat.le_refl _) hdk H40.out.2.1 H40.out.2.2 S1.out
            go_wp2_with fail
            refine wp_loop_rounds 1 ?_
            rw [rounds_succ]
            go_wp2_with (go_at_fn 40; refine hcc.mono ?_; rintro e w' ⟨rfl, H⟩)
            obtain ⟨d2, ⟨k1, r1⟩, hS⟩ := H.out
            go_roundg 1
            case measure => omega
            case rel => exact ⟨80, d2, rfl, by omega, by omega, .inr (.inr ⟨rfl, Nat.le_refl _⟩), ⟨HI.out.1.trans k1, .inr (.inr ⟨rfl, r1⟩)⟩, hS⟩
        · have hbNz : ¬ (bs : Int) < (N : Int) := by omega
          clear HB
          go_wp2
          go_end0
          refine ⟨rfl, ⟨dk, ⟨HI.out.1, ?_⟩, S1.out⟩⟩
          rcases HI.out.2 with h | h | h
          · exact h.2.1.to (by omega)
          · exact h.2.1.to (by omega)
          · exact h.2
/-- slices.SortStableFunc over marked candidates: the row holds them in their order. -/
theorem sorted_any {q : Wt} {cf : Cd → Cd → Int} {g : Nat} {blk off cap N : Nat} {d : Array Cd} {w : World} {enc : Cd → List Value} (R : RowK enc 7 w blk off d) (hN : d.size = N)
    (eg : ∀ args w, (callFunc g args).run Try.prog w = .ok (.enter g args) w) (hcmp : CmpLays Try.prog g #[] enc 7 cf blk off N w) (hcf : ∀ x y, decide (cf x y < 0) = bet q x y) (h60 : N ≤ 60) :
    Calls Try.prog 27 #[.slice (some ⟨blk, off, none⟩) N cap, .func (.func g) #[] #[]] w fun e w' => e = .returned (.tuple #[]) ∧ Hid (∃ d' : Array Cd, d'.toList = srtC q d.toList ∧ SWK enc 7 w blk off d' w') := by
  have hcc := stable_any (cap := cap) stP7 R hN eg hcmp hcf h60
  have HN : Aside (d.size = N) := hN
  clear hcmp hcf hN
  go_enter Try.func27, Try.ntmps27
  go_wp2_with (go_at_call 32; refine hcc.mono ?_; rintro e w' ⟨rfl, H⟩)
  go_end0
  obtain ⟨d', ⟨k1, r1⟩, hS⟩ := H.out
  refine ⟨rfl, ⟨d', ?_, hS⟩⟩
  rw [← k1.same]
  refine (srtC_id ?_).symm
  have hz : d'.size = N := k1.size.trans HN.out
  rw [List.pairwise_iff_getElem]
  intro i j hi hj hij
  have := r1 i j (by omega) hij (by simpa [hz] using hj)
  rw [getElem!_pos d' i (by simpa using hi), getElem!_pos d' j (by simpa using hj)] at this
  simpa using this
end Go.Proofs.Ytmhpgkkaolcncaa
