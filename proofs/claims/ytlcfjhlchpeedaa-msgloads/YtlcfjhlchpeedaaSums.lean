/-
  Contracts: crc.Sum of parts, and the document's Sum of bytes, hand back crc of all their bytes; nothing that was there turns.
-/
import Derived.Test.YtlcfjhlchpeedaaAdds
import Derived.Laws.ShiftsVarLaws
namespace Go.Proofs.Ytlcfjhlchpeedaa
open Go.RowKit
open M
set_option linter.unusedVariables false
set_option maxRecDepth 1000000

/-- The slice of slices reads as these lists. -/
structure Parts (w : World) (a : Option Addr) (len cap : Nat) (zss : List (List Int)) : Prop where
  size : zss.length = len
  room : len ≤ cap
  most : cap ≤ 9223372036854775807
  bytes : ∀ zs ∈ zss, IsBytes zs
  cell : ∀ i, i < len → ∃ b off a' l c, a = some ⟨b, off, none⟩ ∧ w.cell? ⟨b, off + i, none⟩ = some (.slice a' l c) ∧ Reads .u8 w a' l c (zss[i]?.getD [])

theorem Parts.below {w w' : World} {a : Option Addr} {len cap : Nat} {zss : List (List Int)} (h : Parts w a len cap zss) (hb : Below w.heap.size w w') : Parts w' a len cap zss :=
  ⟨h.size, h.room, h.most, h.bytes, fun i hi => by
    obtain ⟨b, off, a', l, c, ha, hc, hr⟩ := h.cell i hi
    exact ⟨b, off, a', l, c, ha, (hb.cell (World.block_lt_of_cell? _ _ hc)).trans hc, hr.below hb⟩⟩

theorem Parts.at {w : World} {a : Option Addr} {len cap : Nat} {zss : List (List Int)} (h : Parts w a len cap zss) (i : Nat) : IsBytes (zss[i]?.getD []) := by
  rcases Nat.lt_or_ge i zss.length with hi | hi
  · rw [List.getElem?_eq_getElem hi]; exact h.bytes _ (List.getElem_mem hi)
  · rw [List.getElem?_eq_none hi]; intro x hx; simp at hx

/-- One part, in a new block. -/
theorem Parts.one (w : World) (t : TypeId) {a : Option Addr} {l c : Nat} {zs : List Int} (h : Reads .u8 w a l c zs) (hz : IsBytes zs) :
    Parts (w.alloc (.cells #[.slice a l c] t)) (some ⟨w.heap.size, 0, none⟩) 1 1 [zs] :=
  ⟨rfl, Nat.le_refl _, by omega, by intro y hy; simp at hy; subst hy; exact hz, fun i hi => by
    have h0 : i = 0 := by omega
    subst h0
    exact ⟨w.heap.size, 0, a, l, c, rfl, by simp, h.below ((Below.refl _ _).alloc (Nat.le_refl _) _)⟩⟩

/-- What holds of the State's cell at block B, and of what was there when the call began. -/
def Inv (w : World) (B : Nat) (x : Int) (wr : World) : Prop :=
  wr.cell? ⟨B, 0, none⟩ = some (.int .u32 x) ∧ wr.frozen? ⟨B, 0, none⟩ = false ∧ Below w.heap.size w wr ∧ B < wr.heap.size
theorem Inv.below {w wr w' : World} {B : Nat} {x : Int} (h : Inv w B x wr) (hb : Below wr.heap.size wr w') : Inv w B x w' := by
  obtain ⟨h0, f0, hbel, hB⟩ := h
  exact ⟨(hb.cell (p := ⟨B, 0, none⟩) hB).trans h0, (hb.frozen (p := ⟨B, 0, none⟩) hB).trans f0, hbel.trans (hb.mono hbel.size), Nat.lt_of_lt_of_le hB hb.size⟩
theorem Inv.store {w wr : World} {B : Nat} {x : Int} (h : Inv w B x wr) (hw : w.heap.size ≤ B) (y : Int) :
    Inv w B y (wr.setCell ⟨B, 0, none⟩ (.int .u32 y)) := by
  obtain ⟨h0, f0, hbel, hB⟩ := h
  exact ⟨by simp [go_sem, h0], by simp [go_sem, f0], hbel.setCell hw _, by simpa [World.setCell] using hB⟩

theorem flat_snoc {zss : List (List Int)} {k : Nat} (h : k < zss.length) : (zss.take (k + 1)).flatten = (zss.take k).flatten ++ zss[k]?.getD [] := by
  rw [List.take_succ_eq_append_getElem h, List.flatten_append]; simp [h]
theorem flat_bytes {zss : List (List Int)} (h : ∀ zs ∈ zss, IsBytes zs) (k : Nat) : IsBytes (zss.take k).flatten := by
  intro x hx
  obtain ⟨zs, hz, hm⟩ := List.mem_flatten.1 hx
  exact h zs (List.mem_of_mem_take hz) x hm
theorem crc_nil : crc [] = 0 := by unfold crc reg; exact Nat.xor_self _

set_option maxHeartbeats 1000000 in
theorem sum_any (a : Option Addr) (len cap : Nat) (zss : List (List Int)) (w : World) (hp : Parts w a len cap zss) (hlen : len ≤ 1000000) (hl : ∀ i : Nat, (zss[i]?.getD []).length ≤ 1000000) :
    Calls Try.prog 64 #[.slice a len cap] w fun e w' => e = .returned (.int .u32 (crc zss.flatten : Nat)) ∧ Below w.heap.size w w' := by
  have HL : Hid (zss.length = len) := hp.size
  go_enter Try.func64, Try.ntmps64
  go_wp2_with fail
  refine (new_any _).mono ?_
  rintro e wn ⟨rfl, hbn⟩
  have hsz := hbn.size
  go_wp2_with fail
  go_loopw [9] (fun i wr => ∃ (k : Nat) (s : Int), k ≤ len ∧ i = .int .i64 k ∧ Inv w wn.heap.size s wr ∧ Hid (s = (crc (zss.take k).flatten : Nat))) (fun i _ => len - (intOf i).toNat)
  case atStart => exact ⟨0, 0, by omega, rfl, ⟨by simp [go_sem], by simp [go_sem], hbn.alloc hsz _, by simp⟩, by unfold Hid; simp [crc_nil]⟩
  case round =>
    obtain ⟨k, s, hk, rfl, hI, HS⟩ := hrel
    obtain ⟨q0, f0, qb, qs⟩ := id hI
    by_cases hlt : k < len
    · obtain ⟨b, off, a', l, c, rfl, hc0, hr0⟩ := hp.cell k hlt
      have hc := (qb.cell (World.block_lt_of_cell? _ _ hc0)).trans hc0
      have hA := add_any (zss.take k).flatten s a' l c (zss[k]?.getD []) wr HS.out (flat_bytes hp.bytes k) (hr0.below qb) (hp.at k) (by rw [← hr0.size]; exact hl k)
      rw [← flat_snoc (by have := HL.out; omega)] at hA
      obtain ⟨s2, HS2⟩ : ∃ s2 : Int, Hid (s2 = (crc (zss.take (k + 1)).flatten : Nat)) := ⟨_, rfl⟩
      rw [← HS2.out] at hA
      clear hc0 hr0 hp hl
      go_wp2_with fail
      refine hA.mono ?_
      rintro e w2 ⟨rfl, hb2⟩
      have hJ := hI.below hb2
      have hK := hJ.store hsz s2
      obtain ⟨r0, g0, rb, rs⟩ := hJ
      clear q0 f0 qb qs hI hA hc hb2
      go_wp2_with fail
      go_roundw
      case rel => exact ⟨k + 1, s2, by omega, by go_num, hK, HS2⟩
      case measure => simp [intOf]; omega
    · have HE : Hid (s = (crc zss.flatten : Nat)) := by
        have := HS.out
        rwa [List.take_of_length_le (by have := HL.out; omega)] at this
      clear hp hl
      have hQ := stsum_any s wr
      go_wp2_with fail
      refine hQ.mono ?_
      rintro e w2 ⟨rfl, hb2⟩
      go_wp2
      go_ret
      exact ⟨ret_int HE.out, qb.trans (hb2.mono qb.size)⟩

/-- A step with a bit of a byte, in the document's spelling. -/
theorem rbit {r d : Int} (r0 : 0 ≤ r) (r1 : r ≤ 4294967295) (d0 : 0 ≤ d) (d1 : d ≤ 255) : bits .and .u32 (bits .xor .u32 r d) 1 = ((r.toNat ^^^ d.toNat) % 2 : Nat) := by
  have hb : r.toNat ^^^ d.toNat < 2 ^ 32 := Nat.xor_lt_two_pow (by omega) (by omega)
  rw [u32_xor _ _ r0 (by omega) d0 (by omega), u32_and _ _ (by omega) (by omega) (by omega) (by omega), Int.toNat_natCast]
  simp

theorem shr_nat {c : Int} (c0 : 0 ≤ c) (j : Nat) : c / 2 ^ j = ((c.toNat / 2 ^ j : Nat) : Int) := by
  obtain ⟨C, rfl⟩ := Int.eq_ofNat_of_zero_le c0
  simp
theorem rbit_at {r c : Int} {j : Nat} (r0 : 0 ≤ r) (r1 : r ≤ 4294967295) (c0 : 0 ≤ c) (c1 : c ≤ 255) :
    bits .and .u32 (bits .xor .u32 r (c / 2 ^ j % 4294967296)) 1 = ((r.toNat ^^^ c.toNat / 2 ^ j) % 2 : Nat) := by
  have hd : c.toNat / 2 ^ j ≤ 255 := Nat.le_trans (Nat.div_le_self _ _) (by omega)
  rw [shr_nat c0]
  generalize c.toNat / 2 ^ j = d at *
  rw [Int.emod_eq_of_lt (by omega) (by omega), rbit r0 r1 (by omega) (by omega), Int.toNat_natCast]
theorem rnext1 {r c : Int} {j : Nat} (r0 : 0 ≤ r) (r1 : r ≤ 4294967295) (c0 : 0 ≤ c) (c1 : c ≤ 255)
    (h : bits .and .u32 (bits .xor .u32 r (c / 2 ^ j % 4294967296)) 1 = 1) :
    ∃ q : Nat, bits .xor .u32 (r / 2) 3988292384 = (q : Int) ∧ q < 2 ^ 32 ∧ q ^^^ (c.toNat / 2 ^ (j + 1)) = st (r.toNat ^^^ c.toNat / 2 ^ j) := by
  rw [rbit_at r0 r1 c0 c1] at h
  have hb : r.toNat / 2 ^^^ PZ < 2 ^ 32 := Nat.xor_lt_two_pow (by omega) (by decide)
  refine ⟨r.toNat / 2 ^^^ PZ, ?_, hb, ?_⟩
  · rw [u32_xor _ _ (by omega) (by omega) (by omega) (by omega)]
    congr 2
    omega
  · rw [st_rst, rst, if_pos (by omega), Nat.pow_succ, Nat.div_div_eq_div_mul]
theorem rnext0 {r c : Int} {j : Nat} (r0 : 0 ≤ r) (r1 : r ≤ 4294967295) (c0 : 0 ≤ c) (c1 : c ≤ 255)
    (h : ¬ bits .and .u32 (bits .xor .u32 r (c / 2 ^ j % 4294967296)) 1 = 1) :
    ∃ q : Nat, r / 2 = (q : Int) ∧ q < 2 ^ 32 ∧ q ^^^ (c.toNat / 2 ^ (j + 1)) = st (r.toNat ^^^ c.toNat / 2 ^ j) := by
  rw [rbit_at r0 r1 c0 c1] at h
  refine ⟨r.toNat / 2, by omega, by omega, ?_⟩
  rw [st_rst, rst, if_neg (by omega), Nat.xor_zero, Nat.pow_succ, Nat.div_div_eq_div_mul]

set_option maxHeartbeats 1000000 in
theorem rsum_any (a : Option Addr) (len cap : Nat) (zs : List Int) (w : World) (hr : Reads .u8 w a len cap zs) (hz : IsBytes zs) (hlen : len ≤ 1000000) :
    Calls Try.prog 65 #[.slice a len cap] w fun e w' => e = .returned (.int .u32 (crc zs : Nat)) ∧ w' = w := by
  have HL : Hid (zs.length = len) := hr.size
  have HR : Hid (∀ k, reg FZ (zs.take k) < 2 ^ 32) := fun k => reg_lt (by decide) (hz.take k)
  go_enter Try.func65, Try.ntmps65
  go_wp2_with fail
  go_loop [3, 4] (fun v i => ∃ (n : Int) (k : Nat), 0 ≤ n ∧ n ≤ 4294967295 ∧ v = .int .u32 n ∧ i = .int .i64 k ∧ k ≤ len ∧ Hid (n = (reg FZ (zs.take k) : Nat))) (fun _ i => len - (intOf i).toNat)
  case atStart => exact ⟨_, 0, by omega, by omega, rfl, rfl, by omega, by unfold Hid; simp [reg]; rfl⟩
  case round =>
    obtain ⟨n, k, n0, n1, rfl, rfl, hk, HM⟩ := hrel
    by_cases hlt : k < len
    · obtain ⟨b, off, rfl, hc⟩ := hr.cell k hlt
      obtain ⟨c0, c1⟩ := hz.at k
      have HS : Hid (sts 8 (n.toNat ^^^ (zs[k]?.getD 0).toNat) = reg FZ (zs.take (k + 1))) := by
        unfold Hid
        rw [take_snoc (by have := HL.out; omega), reg_snoc, HM.out, Int.toNat_natCast]
      have HB := hid (HR.out (k + 1))
      clear hr hz
      generalize zs[k]?.getD 0 = c at *
      go_wp2_with fail
      go_loop [3, 5] (fun v i => ∃ (r : Int) (j : Nat), 0 ≤ r ∧ r ≤ 4294967295 ∧ v = .int .u32 r ∧ i = .int .i64 j ∧ j ≤ 8 ∧ Hid (r.toNat ^^^ (c.toNat / 2 ^ j) = sts j (n.toNat ^^^ c.toNat))) (fun _ i => 8 - (intOf i).toNat)
      case atStart => exact ⟨n, 0, n0, n1, rfl, rfl, by omega, by unfold Hid; simp [sts]⟩
      case round =>
        obtain ⟨r, j, r0, r1, rfl, rfl, hj, HJ⟩ := hrel
        by_cases hj8 : j < 8
        · have HK : Hid (sts (j + 1) (n.toNat ^^^ c.toNat) = st (r.toNat ^^^ c.toNat / 2 ^ j)) := by
            unfold Hid; rw [sts_last, HJ.out]
          by_cases hbit : bits .and .u32 (bits .xor .u32 r (c / 2 ^ j % 4294967296)) 1 = 1
          · obtain ⟨q, h1, h2, h3⟩ := rnext1 r0 r1 c0 c1 hbit
            have H1 := hid h1
            have H2 := hid h2
            have H3 := hid h3
            clear h1 h2 h3
            go_wp2
            go_round
            case rel => exact ⟨q, j + 1, by omega, by have := H2.out; omega, by rw [H1.out], by go_num, by omega, by unfold Hid; rw [HK.out, Int.toNat_natCast]; exact H3.out⟩
            case measure => simp [intOf]; omega
          · obtain ⟨q, h1, h2, h3⟩ := rnext0 r0 r1 c0 c1 hbit
            have H1 := hid h1
            have H2 := hid h2
            have H3 := hid h3
            clear h1 h2 h3
            go_wp2
            go_round
            case rel => exact ⟨q, j + 1, by omega, by have := H2.out; omega, by rw [H1.out], by go_num, by omega, by unfold Hid; rw [HK.out, Int.toNat_natCast]; exact H3.out⟩
            case measure => simp [intOf]; omega
        · obtain rfl : j = 8 := by omega
          have HQ : Hid (r = (reg FZ (zs.take (k + 1)) : Nat)) := by
            have := HJ.out
            rw [Nat.div_eq_of_lt (by omega), Nat.xor_zero, HS.out] at this
            unfold Hid; omega
          go_wp2_with fail
          go_round
          case rel => exact ⟨r, k + 1, r0, r1, rfl, by go_num, by omega, HQ⟩
          case measure => simp [intOf]; omega
    · have HE : Hid (bits .xor .u32 n 4294967295 = (crc zs : Nat)) := by
        unfold Hid
        rw [u32_xor _ _ (by omega) (by omega) (by omega) (by omega), HM.out, Int.toNat_natCast, show (4294967295 : Int).toNat = FZ from rfl, crc, List.take_of_length_le (by have := HL.out; omega)]
      clear hr hz
      go_wp2
      go_ret
      exact ⟨ret_int HE.out, rfl⟩

end Go.Proofs.Ytlcfjhlchpeedaa
