/-
  Contract: the document's Parse hands back what parseF tells: the load, in memory of the call's own, how many bytes the frame has, and the error.
-/
import Derived.Test.YtlcfjhlchpeedaaParses
import Derived.Test.YtlcfjhlchpeedaaROpens
namespace Go.Proofs.Ytlcfjhlchpeedaa
open Go.RowKit
open M
set_option linter.unusedVariables false
set_option maxRecDepth 1000000

set_option maxHeartbeats 1000000 in
theorem rparse_chead (a : Option Addr) (len cap : Nat) (zs : List Int) (w : World) (hr : Reads .u8 w a len cap zs) (hz : IsBytes zs) (hlen : len ≤ 10000) (hne : ¬ headF zs = 0) :
    Calls Try.prog 62 #[.slice a len cap] w fun e w' => Told zs w e w' := by
  have HT := hid (parse_head hne)
  rcases head_cases zs hr.size with ⟨h, hf⟩ | ⟨h, h0, hf⟩ | ⟨h, h0, hf⟩ | ⟨h, h0, h1, hf⟩ | ⟨h, h0, h1, hf⟩ | ⟨h, h0, h1, h2, hf⟩ | ⟨h, h0, h1, h2, hf⟩
  · rw [hf] at HT
    clear hr hz hf hne
    subst h
    go_enter Try.func62, Try.ntmps62
    go_wp2
    go_ret3
    exact Told.err HT.out (Below.refl _ _)
  · obtain ⟨b, off, rfl, _⟩ := hr.cell 0 (by omega)
    have c0 : w.cell? ⟨b, off, none⟩ = some (.int .u8 (zs[0]?.getD 0)) := hr.cells (i := 0) (by omega)
    have b0 := hz.at 0
    rw [hf] at HT
    clear hr hz hf hne
    generalize zs[0]?.getD 0 = x at *
    rcases (by omega : x < 71 ∨ 71 < x) with h0 | h0
    all_goals
      go_enter Try.func62, Try.ntmps62
      go_wp2
      go_ret3
      exact Told.err HT.out (Below.refl _ _)
  · subst h
    obtain ⟨b, off, rfl, _⟩ := hr.cell 0 (by omega)
    have c0 : w.cell? ⟨b, off, none⟩ = some (.int .u8 (zs[0]?.getD 0)) := hr.cells (i := 0) (by omega)
    rw [h0] at c0
    rw [hf] at HT
    clear hr hz hf h0 hne
    go_enter Try.func62, Try.ntmps62
    go_wp2
    go_ret3
    exact Told.err HT.out (Below.refl _ _)
  · obtain ⟨b, off, rfl, _⟩ := hr.cell 0 (by omega)
    have c0 : w.cell? ⟨b, off, none⟩ = some (.int .u8 (zs[0]?.getD 0)) := hr.cells (i := 0) (by omega)
    have c1 := hr.cells (i := 1) (by omega)
    have b1 := hz.at 1
    rw [h0] at c0
    rw [hf] at HT
    clear hr hz hf h0 hne
    generalize zs[1]?.getD 0 = x at *
    rcases (by omega : x < 98 ∨ 98 < x) with h1 | h1
    all_goals
      go_enter Try.func62, Try.ntmps62
      go_wp2
      go_ret3
      exact Told.err HT.out (Below.refl _ _)
  · subst h
    obtain ⟨b, off, rfl, _⟩ := hr.cell 0 (by omega)
    have c0 : w.cell? ⟨b, off, none⟩ = some (.int .u8 (zs[0]?.getD 0)) := hr.cells (i := 0) (by omega)
    have c1 := hr.cells (i := 1) (by omega)
    rw [h0] at c0
    rw [h1] at c1
    rw [hf] at HT
    clear hr hz hf h0 h1 hne
    go_enter Try.func62, Try.ntmps62
    go_wp2
    go_ret3
    exact Told.err HT.out (Below.refl _ _)
  · obtain ⟨b, off, rfl, _⟩ := hr.cell 0 (by omega)
    have c0 : w.cell? ⟨b, off, none⟩ = some (.int .u8 (zs[0]?.getD 0)) := hr.cells (i := 0) (by omega)
    have c1 := hr.cells (i := 1) (by omega)
    have c2 := hr.cells (i := 2) (by omega)
    have b2 := hz.at 2
    rw [h0] at c0
    rw [h1] at c1
    rw [hf] at HT
    clear hr hz hf h0 h1 hne
    generalize zs[2]?.getD 0 = x at *
    rcases (by omega : x < 1 ∨ 1 < x) with h2 | h2
    all_goals
      go_enter Try.func62, Try.ntmps62
      go_wp2
      go_ret3
      exact Told.err HT.out (Below.refl _ _)
  · exact absurd hf hne

/-- The first three bytes of a frame. -/
theorem Reads.mark {w : World} {b off len cap : Nat} {zs : List Int} (h : Reads .u8 w (some ⟨b, off, none⟩) len cap zs) (h3 : 3 ≤ len) (h0 : headF zs = 0) :
    w.cell? ⟨b, off, none⟩ = some (.int .u8 71) ∧ w.cell? ⟨b, off + 1, none⟩ = some (.int .u8 98) ∧ w.cell? ⟨b, off + 2, none⟩ = some (.int .u8 1) := by
  obtain ⟨r, rfl⟩ := head_ok h0
  exact ⟨h.cells (i := 0) (by omega), h.cells (i := 1) (by omega), h.cells (i := 2) (by omega)⟩

set_option maxHeartbeats 1000000 in
theorem rparse_cnum (a : Option Addr) (len cap : Nat) (zs : List Int) (m k f : Int) (w : World) (hr : Reads .u8 w a len cap zs) (hz : IsBytes zs) (hlen : len ≤ 10000) (h3 : 3 ≤ len) (h0 : headF zs = 0)
    (hg : getF (zs.drop 3) 0 0 = (m, k, f)) (hf : ¬ f = 0) :
    Calls Try.prog 62 #[.slice a len cap] w fun e w' => Told zs w e w' := by
  have HT := hid (parse_num h0 hg hf)
  have hrm := hr.room
  have hmo := hr.most
  obtain ⟨b, off, rfl, _⟩ := hr.cell 0 (by omega)
  obtain ⟨c0, c1, c2⟩ := hr.mark h3 h0
  by_cases hc : cap = 3
  · subst hc
    obtain rfl : len = 3 := by omega
    have hN := rget_any (some ⟨b, off, none⟩) 0 0 [] w (Reads.void (by omega)) (by intro x hx; simp at hx) (by omega)
    have hg2 : getF [] 0 0 = (m, k, f) := by
      rw [List.drop_eq_nil_of_le (by rw [hr.size]; exact Nat.le_refl _)] at hg
      exact hg
    rw [gotV_of hg2] at hN
    clear hg2
    clear hr hz h0 hg
    go_enter Try.func62, Try.ntmps62
    go_wp2_with fail
    refine hN.mono ?_
    rintro e w' ⟨rfl, rfl⟩
    go_wp2
    go_ret3
    exact Told.err HT.out (Below.refl _ _)
  · have hN := rget_any _ _ _ _ w (hr.three h3 hc) (hz.drop 3) (by omega)
    rw [gotV_of hg] at hN
    clear hr hz h0 hg
    go_enter Try.func62, Try.ntmps62
    go_wp2_with fail
    refine hN.mono ?_
    rintro e w' ⟨rfl, rfl⟩
    go_wp2
    go_ret3
    exact Told.err HT.out (Below.refl _ _)

set_option maxHeartbeats 1000000 in
theorem rparse_cmany (a : Option Addr) (len cap : Nat) (zs : List Int) (m k : Int) (w : World) (hr : Reads .u8 w a len cap zs) (hz : IsBytes zs) (hlen : len ≤ 10000) (h3 : 4 ≤ len) (h0 : headF zs = 0)
    (hg : getF (zs.drop 3) 0 0 = (m, k, 0)) (hm : 2048 < m) :
    Calls Try.prog 62 #[.slice a len cap] w fun e w' => Told zs w e w' := by
  have HT := hid (parse_many h0 hg hm)
  have hrm := hr.room
  have hmo := hr.most
  obtain ⟨b, off, rfl, _⟩ := hr.cell 0 (by omega)
  obtain ⟨c0, c1, c2⟩ := hr.mark (by omega) h0
  have hc : ¬ cap = 3 := by omega
  have hN := rget_any _ _ _ _ w (hr.three (by omega) hc) (hz.drop 3) (by omega)
  rw [gotV_of hg] at hN
  clear hr hz h0 hg
  go_enter Try.func62, Try.ntmps62
  go_wp2_with fail
  refine hN.mono ?_
  rintro e w' ⟨rfl, rfl⟩
  go_wp2
  go_ret3
  exact Told.err HT.out (Below.refl _ _)

set_option maxHeartbeats 1000000 in
theorem rparse_cend (a : Option Addr) (len cap : Nat) (zs : List Int) (N K : Nat) (w : World) (hr : Reads .u8 w a len cap zs) (hz : IsBytes zs) (hlen : len ≤ 10000) (h3 : 4 ≤ len) (h0 : headF zs = 0)
    (hg : getF (zs.drop 3) 0 0 = ((N : Int), (K : Int), 0)) (hN : N ≤ 2048) (hK0 : 1 ≤ K) (hK : 3 + K ≤ len) (hl : len < 3 + K + N + 4) :
    Calls Try.prog 62 #[.slice a len cap] w fun e w' => Told zs w e w' := by
  have HT := hid (parse_end h0 hg hN (by rw [hr.size]; exact hl))
  have hrm := hr.room
  have hmo := hr.most
  obtain ⟨b, off, rfl, _⟩ := hr.cell 0 (by omega)
  obtain ⟨c0, c1, c2⟩ := hr.mark (by omega) h0
  have hc : ¬ cap = 3 := by omega
  have hG := rget_any _ _ _ _ w (hr.three (by omega) hc) (hz.drop 3) (by omega)
  rw [gotV_of hg] at hG
  clear hr hz h0 hg
  go_enter Try.func62, Try.ntmps62
  go_wp2_with fail
  refine hG.mono ?_
  rintro e w' ⟨rfl, rfl⟩
  go_wp2
  go_ret3
  exact Told.err HT.out (Below.refl _ _)

set_option maxHeartbeats 1000000 in
theorem rparse_csum (a : Option Addr) (len cap : Nat) (zs : List Int) (N K : Nat) (w : World) (hr : Reads .u8 w a len cap zs) (hz : IsBytes zs) (hlen : len ≤ 10000) (h0 : headF zs = 0)
    (hg : getF (zs.drop 3) 0 0 = ((N : Int), (K : Int), 0)) (hN : N ≤ 2048) (hK0 : 1 ≤ K) (hl : 3 + K + N + 4 ≤ len) (hs : ¬ Sealed (zs.take (3 + K + N + 4))) :
    Calls Try.prog 62 #[.slice a len cap] w fun e w' => Told zs w e w' := by
  have HT := hid (parse_sum h0 hg hN (by rw [hr.size]; exact hl) hs)
  have hrm := hr.room
  have hmo := hr.most
  obtain ⟨b, off, rfl, _⟩ := hr.cell 0 (by omega)
  obtain ⟨c0, c1, c2⟩ := hr.mark (by omega) h0
  have hc : ¬ cap = 3 := by omega
  have hG := rget_any _ _ _ _ w (hr.three (by omega) hc) (hz.drop 3) (by omega)
  rw [gotV_of hg] at hG
  have hO := ropen_bad b off (3 + K + N) cap _ w (hr.head (p := 3 + K + N + 4) (by omega) (by simp)) (hz.take _) (by omega) hs
  clear hr hz h0 hg hs
  go_enter Try.func62, Try.ntmps62
  go_wp2_with fail
  refine hG.mono ?_
  rintro e w' ⟨rfl, rfl⟩
  go_wp2_with fail
  refine hO.mono ?_
  rintro e w3 ⟨rfl, hb3⟩
  go_wp2
  go_ret3
  exact Told.err HT.out hb3

set_option maxHeartbeats 1000000 in
theorem rparse_cok (a : Option Addr) (len cap : Nat) (zs : List Int) (N K : Nat) (w : World) (hr : Reads .u8 w a len cap zs) (hz : IsBytes zs) (hlen : len ≤ 10000) (h0 : headF zs = 0)
    (hg : getF (zs.drop 3) 0 0 = ((N : Int), (K : Int), 0)) (hN : N ≤ 2048) (hK0 : 1 ≤ K) (hl : 3 + K + N + 4 ≤ len) (hs : Sealed (zs.take (3 + K + N + 4))) :
    Calls Try.prog 62 #[.slice a len cap] w fun e w' => Told zs w e w' := by
  have HT := hid (parse_ok h0 hg hN (by rw [hr.size]; exact hl) hs)
  have hrm := hr.room
  have hmo := hr.most
  obtain ⟨b, off, rfl, _⟩ := hr.cell 0 (by omega)
  obtain ⟨c0, c1, c2⟩ := hr.mark (by omega) h0
  have hc : ¬ cap = 3 := by omega
  have hG := rget_any _ _ _ _ w (hr.three (by omega) hc) (hz.drop 3) (by omega)
  rw [gotV_of hg] at hG
  have hO := ropen_ok b off (3 + K + N) cap _ w (hr.head (p := 3 + K + N + 4) (by omega) (by simp)) (hz.take _) (by omega) hs
  have HX : Hid (((zs.take (3 + K + N + 4)).take (3 + K + N)).drop (3 + K) = (zs.drop (3 + K)).take N) := by
    unfold Hid
    rw [List.take_take, Nat.min_eq_left (by omega), List.drop_take, Nat.add_sub_cancel_left]
  have HL : Hid ((zs.drop (3 + K)).length = len - (3 + K)) := by unfold Hid; simp [hr.size]
  clear hr hz h0 hg hs
  generalize (zs.take (3 + K + N + 4)).take (3 + K + N) = ys at *
  generalize (zs.drop (3 + K)).take N = xs at *
  go_enter Try.func62, Try.ntmps62
  go_wp2_with fail
  refine hG.mono ?_
  rintro e w' ⟨rfl, rfl⟩
  go_wp2_with fail
  refine hO.mono ?_
  rintro e w3 ⟨v3, rfl, how3, hb3⟩
  obtain ⟨a3, c3, rfl, hr3⟩ := Reads.own how3
  have h53 := Bl5.own how3
  have hrm3 := hr3.room
  have hmo3 := hr3.most
  obtain ⟨b3, o3, rfl, _⟩ := hr3.cell 0 (by omega)
  by_cases hc3 : c3 = 3 + K
  · obtain rfl : N = 0 := by omega
    have hx : xs = [] := by
      have := HX.out
      rw [List.drop_eq_nil_of_le (by have := hr3.size; omega)] at this
      exact this.symm
    subst hx hc3
    have hv : Reads .u8 w3 (some ⟨b3, o3, none⟩) 0 0 [] := Reads.void (by omega)
    clear hG hO how3 hr3
    go_wp2
    go_ret3
    exact Told.ok HT.out (by rw [Nat.sub_self]; exact hv) h53 hb3
  · have hp := hr3.part (p := 3 + K) (n := N) (by omega) hc3
    have hx : (ys.drop (3 + K)).take N = xs := by
      have := HX.out
      rw [this, List.take_of_length_le]
      rw [← this, List.length_drop, hr3.size]; omega
    rw [hx] at hp
    have h5 : Bl5 w3 (some ⟨b3, o3 + (3 + K), none⟩) := fun p hp => by cases hp; exact h53 ⟨b3, o3, none⟩ rfl
    clear hG hO how3 hr3
    go_wp2
    go_ret3
    exact Told.ok HT.out (by rw [Nat.add_sub_cancel_left]; exact hp) h5 hb3

/-- The document's Parse, of any bytes. -/
theorem rparse_any (a : Option Addr) (len cap : Nat) (zs : List Int) (w : World) (hr : Reads .u8 w a len cap zs) (hz : IsBytes zs) (hlen : len ≤ 10000) :
    Calls Try.prog 62 #[.slice a len cap] w fun e w' => Told zs w e w' := by
  by_cases h0 : headF zs = 0
  · have h3 : 3 ≤ len := by
      obtain ⟨r, rfl⟩ := head_ok h0
      rw [← hr.size]; simp
    by_cases he : (getF (zs.drop 3) 0 0).2.2 = 0
    · obtain ⟨q, hg, ht, hq⟩ := got_nat (hz.drop 3) he
      have hk := (encZ_len hq).1
      have hle : 3 + (encZ (q : Int)).length ≤ len := by
        have := congrArg List.length ht
        simp [hr.size] at this
        omega
      by_cases hn : 2048 < (q : Int)
      · exact rparse_cmany a len cap zs _ _ w hr hz hlen (by omega) h0 hg hn
      · by_cases hl : len < 3 + (encZ (q : Int)).length + q + 4
        · exact rparse_cend a len cap zs q _ w hr hz hlen (by omega) h0 hg (by omega) hk hle hl
        · by_cases hs : Sealed (zs.take (3 + (encZ (q : Int)).length + q + 4))
          · exact rparse_cok a len cap zs q _ w hr hz hlen h0 hg (by omega) hk (by omega) hs
          · exact rparse_csum a len cap zs q _ w hr hz hlen h0 hg (by omega) hk (by omega) hs
    · exact rparse_cnum a len cap zs _ _ _ w hr hz hlen h3 h0 rfl he
  · exact rparse_chead a len cap zs w hr hz hlen h0

end Go.Proofs.Ytlcfjhlchpeedaa
