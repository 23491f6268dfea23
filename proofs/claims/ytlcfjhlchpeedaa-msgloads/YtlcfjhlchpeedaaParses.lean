/-
  Contract: frame.Parse hands back what parseF tells: the load, in memory of the call's own, how many bytes the frame has, and the error.
-/
import Derived.Test.YtlcfjhlchpeedaaHeads
namespace Go.Proofs.Ytlcfjhlchpeedaa
open Go.RowKit
open M
set_option linter.unusedVariables false
set_option maxRecDepth 1000000

/-- The slice leads to a block of bytes, if to one. -/
def Bl5 (w : World) (a : Option Addr) : Prop := ∀ p, a = some p → ∃ cur fz, w.heap[p.block]? = some (.cells cur 5 fz)
theorem Bl5.none (w : World) : Bl5 w none := fun p h => by cases h
theorem Bl5.below {w w' : World} {a : Option Addr} (h : Bl5 w a) (hb : Below w.heap.size w w') : Bl5 w' a := fun p hp => by
  obtain ⟨cur, fz, hc⟩ := h p hp
  exact ⟨cur, fz, (hb.block p.block (Array.getElem?_eq_some_iff.1 hc).1).trans hc⟩
theorem Bl5.own {w : World} {B n l c : Nat} {a : Option Addr} {xs : List Value} (h : w.ownsRow B 5 1 (.slice a l c) n xs) : Bl5 w a := by
  rcases h.2 with ⟨h', _⟩ | ⟨g, cap, cur, h', _, hg, _⟩
  · cases h'; exact Bl5.none w
  · cases h'
    intro p hp
    cases hp
    exact ⟨cur, (0, 0), hg⟩

/-- What Parse hands back. -/
def Told (zs : List Int) (w : World) (e : Ending) (w' : World) : Prop :=
  ∃ a l c, e = .returned (.tuple #[.slice a l c, .int .i64 (parseF zs).2.1, .int .i64 (parseF zs).2.2]) ∧ Reads .u8 w' a l c (parseF zs).1 ∧ Bl5 w' a ∧ Below w.heap.size w w'
theorem Told.err {zs : List Int} {w w' : World} {f : Int} (h : parseF zs = ([], 0, f)) (hb : Below w.heap.size w w') : Told zs w (.returned (.tuple #[.slice none 0 0, .int .i64 0, .int .i64 f])) w' :=
  ⟨none, 0, 0, by rw [h], by rw [h]; exact Reads.nil _ _, Bl5.none _, hb⟩
theorem Told.ok {zs xs : List Int} {w w' : World} {n : Int} {a : Option Addr} {l c : Nat} (h : parseF zs = (xs, n, 0)) (hr : Reads .u8 w' a l c xs) (h5 : Bl5 w' a) (hb : Below w.heap.size w w') :
    Told zs w (.returned (.tuple #[.slice a l c, .int .i64 n, .int .i64 0])) w' :=
  ⟨a, l, c, by rw [h], by rw [h]; exact hr, h5, hb⟩

theorem parse_chead (a : Option Addr) (len cap : Nat) (zs : List Int) (w : World) (hr : Reads .u8 w a len cap zs) (hz : IsBytes zs) (hlen : len ≤ 100000) (h0 : ¬ headF zs = 0) :
    Calls Try.prog 61 #[.slice a len cap] w fun e w' => Told zs w e w' := by
  have hH := checkhead_any a len cap zs w hr hz hlen
  have HT := hid (parse_head h0)
  clear hr hz
  generalize headF zs = f at *
  go_enter Try.func61, Try.ntmps61
  go_wp2_with fail
  refine hH.mono ?_
  rintro e w' ⟨rfl, rfl⟩
  go_wp2
  go_ret3
  exact Told.err HT.out (Below.refl _ _)

/-- Bytes from the fourth on: at the capacity's end the address stays. -/
theorem Reads.three {w : World} {b off len cap : Nat} {zs : List Int} (h : Reads .u8 w (some ⟨b, off, none⟩) len cap zs) (h3 : 3 ≤ len) (hc : ¬ cap = 3) :
    Reads .u8 w (some ⟨b, off + 3, none⟩) (len - 3) (cap - 3) (zs.drop 3) := by
  have := h.part (p := 3) (n := len - 3) (by omega) hc
  rwa [List.take_of_length_le (by simp [h.size])] at this

theorem drop3_len {zs : List Int} {len : Nat} (h : zs.length = len) (h3 : 3 ≤ len) : (zs.drop 3).length = len - 3 := by simp [h]

set_option maxHeartbeats 1000000 in
theorem parse_cnum (a : Option Addr) (len cap : Nat) (zs : List Int) (m k f : Int) (w : World) (hr : Reads .u8 w a len cap zs) (hz : IsBytes zs) (hlen : len ≤ 100000) (h3 : 3 ≤ len) (h0 : headF zs = 0)
    (hg : getF (zs.drop 3) 0 0 = (m, k, f)) (hf : ¬ f = 0) :
    Calls Try.prog 61 #[.slice a len cap] w fun e w' => Told zs w e w' := by
  have hH := checkhead_any a len cap zs w hr hz hlen
  rw [h0] at hH
  have HT := hid (parse_num h0 hg hf)
  have hrm := hr.room
  have hmo := hr.most
  obtain ⟨b, off, rfl, _⟩ := hr.cell 0 (by omega)
  by_cases hc : cap = 3
  · subst hc
    obtain rfl : len = 3 := by omega
    have hN := getbytes_num (some ⟨b, off, none⟩) 0 0 [] m k f w (Reads.void (by omega)) (by intro x hx; simp at hx) (by omega) (by rw [List.drop_eq_nil_of_le (by rw [hr.size]; omega)] at hg; exact hg) hf
    clear hr hz h0 hg
    go_enter Try.func61, Try.ntmps61
    go_wp2_with fail
    refine hH.mono ?_
    rintro e w' ⟨rfl, rfl⟩
    go_wp2_with fail
    refine hN.mono ?_
    rintro e w' ⟨rfl, rfl⟩
    go_wp2
    go_ret3
    exact Told.err HT.out (Below.refl _ _)
  · have hN := getbytes_num _ _ _ _ m k f w (hr.three h3 hc) (hz.drop 3) (by omega) hg hf
    clear hr hz h0 hg
    go_enter Try.func61, Try.ntmps61
    go_wp2_with fail
    refine hH.mono ?_
    rintro e w' ⟨rfl, rfl⟩
    go_wp2_with fail
    refine hN.mono ?_
    rintro e w' ⟨rfl, rfl⟩
    go_wp2
    go_ret3
    exact Told.err HT.out (Below.refl _ _)

set_option maxHeartbeats 1000000 in
theorem parse_cmany (a : Option Addr) (len cap : Nat) (zs : List Int) (m k : Int) (w : World) (hr : Reads .u8 w a len cap zs) (hz : IsBytes zs) (hlen : len ≤ 100000) (h3 : 4 ≤ len) (h0 : headF zs = 0)
    (hg : getF (zs.drop 3) 0 0 = (m, k, 0)) (hm : 2048 < m) :
    Calls Try.prog 61 #[.slice a len cap] w fun e w' => Told zs w e w' := by
  have hH := checkhead_any a len cap zs w hr hz hlen
  rw [h0] at hH
  have HT := hid (parse_many h0 hg hm)
  have hrm := hr.room
  have hmo := hr.most
  obtain ⟨b, off, rfl, _⟩ := hr.cell 0 (by omega)
  have hc : ¬ cap = 3 := by omega
  have hN := getbytes_many _ _ _ _ m k w (hr.three (by omega) hc) (hz.drop 3) (by omega) hg hm
  clear hr hz h0 hg
  go_enter Try.func61, Try.ntmps61
  go_wp2_with fail
  refine hH.mono ?_
  rintro e w' ⟨rfl, rfl⟩
  go_wp2_with fail
  refine hN.mono ?_
  rintro e w' ⟨rfl, rfl⟩
  go_wp2
  go_ret3
  exact Told.err HT.out (Below.refl _ _)

set_option maxHeartbeats 1000000 in
theorem parse_cend (a : Option Addr) (len cap : Nat) (zs : List Int) (N K : Nat) (w : World) (hr : Reads .u8 w a len cap zs) (hz : IsBytes zs) (hlen : len ≤ 100000) (h3 : 4 ≤ len) (h0 : headF zs = 0)
    (hg : getF (zs.drop 3) 0 0 = ((N : Int), (K : Int), 0)) (hN : N ≤ 2048) (hK0 : 1 ≤ K) (hK : 3 + K ≤ len) (hl : len < 3 + K + N + 4) :
    Calls Try.prog 61 #[.slice a len cap] w fun e w' => Told zs w e w' := by
  have hH := checkhead_any a len cap zs w hr hz hlen
  rw [h0] at hH
  have HT := hid (parse_end h0 hg hN (by rw [hr.size]; exact hl))
  have hrm := hr.room
  have hmo := hr.most
  obtain ⟨b, off, rfl, _⟩ := hr.cell 0 (by omega)
  have hc : ¬ cap = 3 := by omega
  by_cases hs : len < 3 + K + N
  · have hE := getbytes_end _ _ _ _ N K w (hr.three (by omega) hc) (hz.drop 3) (by omega) hg hN (by omega) (by omega)
    clear hr hz h0 hg
    go_enter Try.func61, Try.ntmps61
    go_wp2_with fail
    refine hH.mono ?_
    rintro e w' ⟨rfl, rfl⟩
    go_wp2_with fail
    refine hE.mono ?_
    rintro e w' ⟨rfl, rfl⟩
    go_wp2
    go_ret3
    exact Told.err HT.out (Below.refl _ _)
  · have hG := getbytes_ok _ _ _ _ N K 2048 w (hr.three (by omega) hc) (hz.drop 3) (by omega) hg hN (by omega) (by omega) (by omega)
    clear hr hz h0 hg
    go_enter Try.func61, Try.ntmps61
    go_wp2_with fail
    refine hH.mono ?_
    rintro e w' ⟨rfl, rfl⟩
    go_wp2_with fail
    refine hG.mono ?_
    rintro e w2 ⟨v2, rfl, how2, hb2⟩
    go_wp2
    go_ret3
    exact Told.err HT.out hb2

set_option maxHeartbeats 1000000 in
theorem parse_csum (a : Option Addr) (len cap : Nat) (zs : List Int) (N K : Nat) (w : World) (hr : Reads .u8 w a len cap zs) (hz : IsBytes zs) (hlen : len ≤ 100000) (h0 : headF zs = 0)
    (hg : getF (zs.drop 3) 0 0 = ((N : Int), (K : Int), 0)) (hN : N ≤ 2048) (hK0 : 1 ≤ K) (hl : 3 + K + N + 4 ≤ len) (hs : ¬ Sealed (zs.take (3 + K + N + 4))) :
    Calls Try.prog 61 #[.slice a len cap] w fun e w' => Told zs w e w' := by
  have hH := checkhead_any a len cap zs w hr hz hlen
  rw [h0] at hH
  have HT := hid (parse_sum h0 hg hN (by rw [hr.size]; exact hl) hs)
  have hrm := hr.room
  have hmo := hr.most
  obtain ⟨b, off, rfl, _⟩ := hr.cell 0 (by omega)
  have hc : ¬ cap = 3 := by omega
  have hG := getbytes_ok _ _ _ _ N K 2048 w (hr.three (by omega) hc) (hz.drop 3) (by omega) hg hN (by omega) (by omega) (by omega)
  have HH := hid (hr.head (p := 3 + (K + N) + 4) (by omega) (by simp))
  have HS : Hid (¬ Sealed (zs.take (3 + (K + N) + 4))) := by unfold Hid; rw [← Nat.add_assoc 3 K N]; exact hs
  have HZ := hid (hz.take (3 + (K + N) + 4))
  clear hr hz h0 hg hs
  go_enter Try.func61, Try.ntmps61
  go_wp2_with fail
  refine hH.mono ?_
  rintro e w' ⟨rfl, rfl⟩
  go_wp2_with fail
  refine hG.mono ?_
  rintro e w2 ⟨v2, rfl, how2, hb2⟩
  have hO := open_bad b off (3 + (K + N)) cap _ w2 (HH.out.below hb2) HZ.out (by omega) HS.out
  clear hG hH how2
  go_wp2_with fail
  refine hO.mono ?_
  rintro e w3 ⟨rfl, hb3⟩
  go_wp2
  go_ret3
  exact Told.err HT.out (hb2.trans (hb3.mono hb2.size))

set_option maxHeartbeats 1000000 in
theorem parse_cok (a : Option Addr) (len cap : Nat) (zs : List Int) (N K : Nat) (w : World) (hr : Reads .u8 w a len cap zs) (hz : IsBytes zs) (hlen : len ≤ 100000) (h0 : headF zs = 0)
    (hg : getF (zs.drop 3) 0 0 = ((N : Int), (K : Int), 0)) (hN : N ≤ 2048) (hK0 : 1 ≤ K) (hl : 3 + K + N + 4 ≤ len) (hs : Sealed (zs.take (3 + K + N + 4))) :
    Calls Try.prog 61 #[.slice a len cap] w fun e w' => Told zs w e w' := by
  have hH := checkhead_any a len cap zs w hr hz hlen
  rw [h0] at hH
  have hT := parse_ok h0 hg hN (by rw [hr.size]; exact hl) hs
  rw [← List.drop_drop, Nat.add_assoc 3 K N] at hT
  have HT := hid hT
  have hrm := hr.room
  have hmo := hr.most
  obtain ⟨b, off, rfl, _⟩ := hr.cell 0 (by omega)
  have hc : ¬ cap = 3 := by omega
  have hG := getbytes_ok _ _ _ _ N K 2048 w (hr.three (by omega) hc) (hz.drop 3) (by omega) hg hN (by omega) (by omega) (by omega)
  have HH := hid (hr.head (p := 3 + (K + N) + 4) (by omega) (by simp))
  have HS : Hid (Sealed (zs.take (3 + (K + N) + 4))) := by unfold Hid; rw [← Nat.add_assoc 3 K N]; exact hs
  have HZ := hid (hz.take (3 + (K + N) + 4))
  clear hr hz h0 hg hs hT
  go_enter Try.func61, Try.ntmps61
  go_wp2_with fail
  refine hH.mono ?_
  rintro e w' ⟨rfl, rfl⟩
  go_wp2_with fail
  refine hG.mono ?_
  rintro e w2 ⟨v2, rfl, how2, hb2⟩
  obtain ⟨a2, c2, rfl, hr2⟩ := Reads.own how2
  have h52 := Bl5.own how2
  have hO := open_ok b off (3 + (K + N)) cap _ w2 (HH.out.below hb2) HZ.out (by omega) HS.out
  clear hG hH how2
  go_wp2_with fail
  refine hO.mono ?_
  rintro e w3 ⟨v3, rfl, how3, hb3⟩
  have hr3 := hr2.below hb3
  have h53 := h52.below hb3
  obtain ⟨a3, c3, rfl, _⟩ := Reads.own how3
  clear how3 hr2 h52
  go_wp2
  go_ret3
  exact Told.ok HT.out hr3 h53 (hb2.trans (hb3.mono hb2.size))

/-- frame.Parse, of any bytes. -/
theorem parse_any (a : Option Addr) (len cap : Nat) (zs : List Int) (w : World) (hr : Reads .u8 w a len cap zs) (hz : IsBytes zs) (hlen : len ≤ 100000) :
    Calls Try.prog 61 #[.slice a len cap] w fun e w' => Told zs w e w' := by
  by_cases h0 : headF zs = 0
  · have h3 : 3 ≤ len := by
      obtain ⟨r, rfl⟩ := head_ok h0
      rw [← hr.size]; simp
    by_cases he : (getF (zs.drop 3) 0 0).2.2 = 0
    · obtain ⟨q, hg, ht, hq⟩ := got_nat (hz.drop 3) he
      have hk := (encZ_len hq).1
      have hle : 3 + (encZ (q : Int)).length ≤ len := by
        have := congrArg List.length ht
        simp [hr.size] at this
        omega
      by_cases hn : 2048 < (q : Int)
      · exact parse_cmany a len cap zs _ _ w hr hz hlen (by omega) h0 hg hn
      · by_cases hl : len < 3 + (encZ (q : Int)).length + q + 4
        · exact parse_cend a len cap zs q _ w hr hz hlen (by omega) h0 hg (by omega) hk hle hl
        · by_cases hs : Sealed (zs.take (3 + (encZ (q : Int)).length + q + 4))
          · exact parse_cok a len cap zs q _ w hr hz hlen h0 hg (by omega) hk (by omega) hs
          · exact parse_csum a len cap zs q _ w hr hz hlen h0 hg (by omega) hk (by omega) hs
    · exact parse_cnum a len cap zs _ _ _ w hr hz hlen h3 h0 rfl he
  · exact parse_chead a len cap zs w hr hz hlen h0

end Go.Proofs.Ytlcfjhlchpeedaa
