/-
  Texts of tokens, names of marks; a tree's block, a mark's block; made, longest, cut, textOf, nameOf, text, HasPrefix.
-/
import Derived.Test.YtdchoegaindnbaaVNum
import Derived.Deep.RegionWith
import Derived.Deep.DeepCutAuto
import Derived.Lib.Strings
import Derived.Lib.Bytes
namespace Go.Proofs.Ytdchoegaindnbaa
open Go.RowKit
set_option linter.unusedVariables false
set_option maxRecDepth 1000000

def isU (x : Int) : Prop := 0 ≤ x ∧ x ≤ 18446744073709551615
def isI (x : Int) : Prop := -9223372036854775808 ≤ x ∧ x ≤ 9223372036854775807
def isIs (ts : List Int) : Prop := ∀ x ∈ ts, isI x
/-- A text's bytes; a mark's name. -/
def txZ (ts : List Int) : List Int := encsZ (ts.map foldZ)
def nmZ (r : Int) (ts : List Int) : List Int := encZ r ++ txZ ts
theorem fold_u64 {ts : List Int} (h : isIs ts) : IsU64s (ts.map foldZ) := fun x hx => by
  obtain ⟨y, hy, rfl⟩ := List.mem_map.1 hx
  exact foldZ_bd (h y hy).1 (h y hy).2
theorem txZ_bytes (ts : List Int) : IsBytes (txZ ts) := encsZ_bytes _
theorem nmZ_bytes (r : Int) (ts : List Int) : IsBytes (nmZ r ts) := (encZ_bytes r).append (txZ_bytes ts)
theorem txZ_len {ts : List Int} (h : isIs ts) : (txZ ts).length ≤ 10 * ts.length := by
  have := encsZ_len (fold_u64 h)
  simpa [txZ] using this
theorem nmZ_len {r : Int} {ts : List Int} (hr : isU r) (h : isIs ts) : (nmZ r ts).length ≤ 10 + 10 * ts.length := by
  have h1 := txZ_len h
  have h2 := (encZ_len hr.2).2
  unfold nmZ
  rw [List.length_append]
  omega
theorem txZ_app (xs ys : List Int) : txZ (xs ++ ys) = txZ xs ++ txZ ys := by unfold txZ encsZ; simp
theorem encZ_inj {x y : Int} (hx : isU x) (hy : isU y) {r s : List Int} (h : encZ x ++ r = encZ y ++ s) : x = y ∧ r = s := by
  have h1 := got_back r hx.1 hx.2
  have h2 := got_back s hy.1 hy.2
  rw [h, h2] at h1
  have e : x = y := by simp at h1; exact h1.1.symm
  subst e
  exact ⟨rfl, List.append_cancel_left h⟩
theorem foldZ_inj {x y : Int} (h : foldZ x = foldZ y) : x = y := by rw [← unfold_fold x, ← unfold_fold y, h]
theorem foldZ_u {x : Int} (h : isI x) : isU (foldZ x) := foldZ_bd h.1 h.2
theorem txZ_cons (x : Int) (xs : List Int) : txZ (x :: xs) = encZ (foldZ x) ++ txZ xs := by unfold txZ encsZ; simp
theorem txZ_nil : txZ [] = [] := rfl
/-- A text begins with just the texts of its beginnings. -/
theorem txZ_pre : ∀ {xs ys : List Int}, isIs xs → isIs ys → (txZ xs <+: txZ ys ↔ xs <+: ys)
  | [], ys, _, _ => by simp [txZ_nil]
  | x :: xs, [], hx, _ => by
    have h1 := (encZ_len (foldZ_u (hx x (by simp))).2).1
    constructor
    · intro h
      rw [txZ_cons, txZ_nil] at h
      have := h.length_le
      simp at this
      rw [this.1] at h1
      simp at h1
    · intro h; simp at h
  | x :: xs, y :: ys, hx, hy => by
    rw [txZ_cons, txZ_cons]
    have ih := txZ_pre (xs := xs) (ys := ys) (fun z hz => hx z (by simp [hz])) (fun z hz => hy z (by simp [hz]))
    constructor
    · rintro ⟨r, hr⟩
      rw [List.append_assoc] at hr
      obtain ⟨e, hr⟩ := encZ_inj (foldZ_u (hx x (by simp))) (foldZ_u (hy y (by simp))) hr
      rw [foldZ_inj e, List.cons_prefix_cons]
      exact ⟨rfl, ih.1 ⟨r, hr⟩⟩
    · intro h
      rw [List.cons_prefix_cons] at h
      rw [h.1]
      exact (List.prefix_append_right_inj _).2 (ih.2 h.2)
theorem txZ_inj {xs ys : List Int} (hx : isIs xs) (hy : isIs ys) (h : txZ xs = txZ ys) : xs = ys := by
  have h1 := (txZ_pre hx hy).1 (h ▸ List.prefix_rfl)
  have h2 := (txZ_pre hy hx).1 (h ▸ List.prefix_rfl)
  exact h1.eq_of_length (Nat.le_antisymm h1.length_le h2.length_le)
theorem nmZ_inj {r s : Int} {xs ys : List Int} (hr : isU r) (hs : isU s) (hx : isIs xs) (hy : isIs ys) (h : nmZ r xs = nmZ s ys) : r = s ∧ xs = ys := by
  obtain ⟨e, h2⟩ := encZ_inj hr hs h
  exact ⟨e, txZ_inj hx hy h2⟩
/-! Strings. -/
theorem strN_app (xs ys : List Int) : strOfNums xs ++ strOfNums ys = strOfNums (xs ++ ys) := by
  apply ByteArray.ext
  simp [strOfNums]
theorem strN_take (xs : List Int) (k : Nat) : (strOfNums xs).extract 0 k = strOfNums (xs.take k) := by
  apply ByteArray.ext
  simp [strOfNums, List.map_take]
theorem strN_drop (xs : List Int) (k : Nat) : (strOfNums xs).extract k xs.length = strOfNums (xs.drop k) := by
  apply ByteArray.ext
  simp [strOfNums, List.map_drop]
  exact List.take_of_length_le (by simp)
theorem strN_inj {xs ys : List Int} (hx : IsBytes xs) (hy : IsBytes ys) (h : strOfNums xs = strOfNums ys) : xs = ys := by
  have h1 : (xs.map fun n => UInt8.ofNat n.toNat) = ys.map fun n => UInt8.ofNat n.toNat := by
    have := congrArg (fun b : ByteArray => b.data.toList) h
    simpa [strOfNums_data] using this
  have key : ∀ a b : Int, (0 ≤ a ∧ a ≤ 255) → (0 ≤ b ∧ b ≤ 255) → UInt8.ofNat a.toNat = UInt8.ofNat b.toNat → a = b := fun a b ha hb e => by
    have := congrArg UInt8.toNat e
    simp at this
    omega
  clear h
  induction xs generalizing ys with
  | nil => cases ys with
    | nil => rfl
    | cons y ys => simp at h1
  | cons x xs ih => cases ys with
    | nil => simp at h1
    | cons y ys =>
      simp only [List.map_cons, List.cons.injEq] at h1
      rw [key x y (hx x (by simp)) (hy y (by simp)) h1.1, ih (ys := ys) (fun z hz => hx z (by simp [hz])) (fun z hz => hy z (by simp [hz])) h1.2]
/-! A tree's block. -/
/-- The tree in block B. -/
def TrB (W : World) (B room size M : Nat) (time : Int) : Prop := W.heap[B]? = some (.cells #[.int .i64 room, .int .i64 size, .map (some M), .int .u64 time] 52 (0, 0))
theorem TrB.lt {W : World} {B room size M : Nat} {time : Int} (h : TrB W B room size M time) : B < W.heap.size := lt_of_block h
theorem TrB.same {W W' : World} {B room size M : Nat} {time : Int} (h : TrB W B room size M time) (hb : W'.heap[B]? = W.heap[B]?) : TrB W' B room size M time := hb.trans h
theorem TrB.below {W W' : World} {B room size M : Nat} {time : Int} (h : TrB W B room size M time) (hb : Below W.heap.size W W') : TrB W' B room size M time := h.same (hb.block _ h.lt)
theorem TrB.cells {W : World} {B room size M : Nat} {time : Int} (h : TrB W B room size M time) : W.cell? ⟨B, 0, none⟩ = some (.int .i64 room) ∧ W.cell? ⟨B, 1, none⟩ = some (.int .i64 size) ∧ W.cell? ⟨B, 2, none⟩ = some (.map (some M)) ∧ W.cell? ⟨B, 3, none⟩ = some (.int .u64 time) :=
  ⟨by rw [cell_of_row _ _ _ _ _ _ h]; rfl, by rw [cell_of_row _ _ _ _ _ _ h]; rfl, by rw [cell_of_row _ _ _ _ _ _ h]; rfl, by rw [cell_of_row _ _ _ _ _ _ h]; rfl⟩
theorem TrB.frozen {W : World} {B room size M : Nat} {time : Int} (h : TrB W B room size M time) (t : Nat) : W.frozen? ⟨B, t, none⟩ = false := frozen_of_row _ _ t _ _ h
theorem TrB.tick {W : World} {B room size M : Nat} {time : Int} (h : TrB W B room size M time) (t : Int) : TrB (W.setCell ⟨B, 3, none⟩ (.int .u64 t)) B room size M t := row_set (k := 3) h
/-- A mark: its replica, its tokens, its last use; where it lies. -/
structure Mk where
  rep : Int
  toks : List Int
  used : Int
  blk : Nat
/-- Its name. -/
def Mk.nm (m : Mk) : List Int := nmZ m.rep m.toks
def Mk.ok (m : Mk) : Prop := isU m.rep ∧ isIs m.toks ∧ m.toks.length ≤ 1000 ∧ isU m.used
/-- The mark lies in its block. -/
def MkB (W : World) (m : Mk) : Prop := W.heap[m.blk]? = some (.cells #[.string (strOfNums m.nm), .int .u64 m.rep, .int .i64 m.toks.length, .int .u64 m.used] 65 (0, 0))
theorem MkB.lt {W : World} {m : Mk} (h : MkB W m) : m.blk < W.heap.size := lt_of_block h
theorem MkB.same {W W' : World} {m : Mk} (h : MkB W m) (hb : W'.heap[m.blk]? = W.heap[m.blk]?) : MkB W' m := hb.trans h
theorem MkB.below {W W' : World} {m : Mk} (h : MkB W m) (hb : Below W.heap.size W W') : MkB W' m := h.same (hb.block _ h.lt)
theorem MkB.cells {W : World} {m : Mk} (h : MkB W m) : W.cell? ⟨m.blk, 0, none⟩ = some (.string (strOfNums m.nm)) ∧ W.cell? ⟨m.blk, 1, none⟩ = some (.int .u64 m.rep) ∧ W.cell? ⟨m.blk, 2, none⟩ = some (.int .i64 m.toks.length) ∧ W.cell? ⟨m.blk, 3, none⟩ = some (.int .u64 m.used) :=
  ⟨by rw [cell_of_row _ _ _ _ _ _ h]; rfl, by rw [cell_of_row _ _ _ _ _ _ h]; rfl, by rw [cell_of_row _ _ _ _ _ _ h]; rfl, by rw [cell_of_row _ _ _ _ _ _ h]; rfl⟩
theorem MkB.frozen {W : World} {m : Mk} (h : MkB W m) (t : Nat) : W.frozen? ⟨m.blk, t, none⟩ = false := frozen_of_row _ _ t _ _ h
theorem MkB.use {W : World} {m : Mk} (h : MkB W m) (t : Int) : MkB (W.setCell ⟨m.blk, 3, none⟩ (.int .u64 t)) { m with used := t } := row_set (k := 3) h
/-! The small functions. -/
theorem made_yes {W : World} {B room size M : Nat} {time : Int} (h : TrB W B room size M time) (hr : 1 ≤ room) : Calls Try.prog 21 #[.pointer (some ⟨B, 0, none⟩)] W fun r w' => r = .returned (.bool true) ∧ w' = W := by
  have c0 := h.cells.1
  have h1 : (0 : Int) < (room : Int) := by omega
  have h2 : 0 < room := by omega
  clear h
  go_enter Try.func21, Try.ntmps21
  go_wp2
  go_ret
  exact ⟨rfl, rfl⟩
theorem made_nil (W : World) : Calls Try.prog 21 #[.pointer none] W fun r w' => r = .returned (.bool false) ∧ w' = W := by
  go_enter Try.func21, Try.ntmps21
  go_wp2
  go_ret
  exact ⟨rfl, rfl⟩
theorem made_zero {W : World} {B : Nat} (c0 : W.cell? ⟨B, 0, none⟩ = some (.int .i64 0)) : Calls Try.prog 21 #[.pointer (some ⟨B, 0, none⟩)] W fun r w' => r = .returned (.bool false) ∧ w' = W := by
  go_enter Try.func21, Try.ntmps21
  go_wp2
  go_ret
  exact ⟨rfl, rfl⟩
theorem longest_any {W : World} {B room size M : Nat} {time : Int} (h : TrB W B room size M time) (hr : room ≤ 4096) (hs : size ≤ 16) : Calls Try.prog 34 #[.pointer (some ⟨B, 0, none⟩)] W fun r w' => r = .returned (.int .i64 (room * size : Nat)) ∧ Hid (Below W.heap.size W w') := by
  have c0 := h.cells.1
  have c1 := h.cells.2.1
  have hm : room * size ≤ 4096 * 16 := Nat.mul_le_mul hr hs
  have hw : IntKind.i64.wrap ((room : Int) * (size : Int)) = ((room * size : Nat) : Int) := by
    rw [wrap64_in (by rw [← Int.natCast_mul]; omega) (by rw [← Int.natCast_mul]; omega), Int.natCast_mul]
  have HW := hid hw
  have HB : Hid (Below W.heap.size W W.drew) := (Below.refl _ _).drew
  have HB0 : Hid (Below W.heap.size W W) := (Below.refl _ _)
  clear h hw
  go_enter Try.func34, Try.ntmps34
  go_wp2_with fail
  go_region
  all_goals
    go_wp2
    go_ret
    exact ⟨ret_int (by rw [Int.natCast_mul]), by first | exact HB.out | exact HB0.out⟩
end Go.Proofs.Ytdchoegaindnbaa
