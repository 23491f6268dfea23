/-
  A reader that lies in memory, and what a call may turn; contracts: reader.number, reader.anyNumber.
-/
import Derived.Test.YtlcfjhlchpeedaaMMath
import Derived.Handy
import Derived.Lib.SmallJoins
namespace Go.Proofs.Ytlcfjhlchpeedaa
open Go.RowKit
open M
set_option linter.unusedVariables false
set_option maxRecDepth 1000000

/-- Of the blocks that were there, none but these has turned. -/
structure But (S : List Nat) (w w' : World) : Prop where
  os : w'.os = w.os
  tape : w'.tape = w.tape
  output : w'.output = w.output
  size : w.heap.size ≤ w'.heap.size
  block : ∀ k, k < w.heap.size → k ∉ S → w'.heap[k]? = w.heap[k]?
theorem But.refl (S : List Nat) (w : World) : But S w w := ⟨rfl, rfl, rfl, Nat.le_refl _, fun _ _ _ => rfl⟩
theorem But.trans {S : List Nat} {a b c : World} (h : But S a b) (k : But S b c) : But S a c :=
  ⟨k.os.trans h.os, k.tape.trans h.tape, k.output.trans h.output, Nat.le_trans h.size k.size, fun i hi hS => (k.block i (Nat.lt_of_lt_of_le hi h.size) hS).trans (h.block i hi hS)⟩
theorem But.mono {S S' : List Nat} {a b : World} (h : But S a b) (hS : ∀ s ∈ S, s ∈ S') : But S' a b := ⟨h.os, h.tape, h.output, h.size, fun i hi hn => h.block i hi fun hs => hn (hS i hs)⟩
theorem But.below {S : List Nat} {a b c : World} (h : But S a b) (k : Below a.heap.size b c) : But S a c :=
  ⟨k.os.trans h.os, k.tape.trans h.tape, k.output.trans h.output, Nat.le_trans h.size k.size, fun i hi hS => (k.block i hi).trans (h.block i hi hS)⟩
theorem But.of {S : List Nat} {a b : World} (k : Below a.heap.size a b) : But S a b := (But.refl S a).below k
theorem But.set {S : List Nat} {a b : World} (h : But S a b) {p : Addr} (hp : p.block ∈ S) (u : Value) : But S a (b.setCell p u) :=
  h.trans ⟨rfl, rfl, rfl, by simp [World.setCell], fun k hk hn => Below.heap_setCell _ _ _ _ (fun e => hn (e ▸ hp))⟩
theorem But.to {S : List Nat} {a b : World} {B : Nat} (h : But S a b) (hS : ∀ s ∈ S, B ≤ s) (hB : B ≤ a.heap.size) : Below B a b :=
  ⟨h.os, h.tape, h.output, h.size, fun k hk => h.block k (by omega) fun hs => by have := hS k hs; omega⟩

/-- A reader in block B: what is left, and the first error; its bytes lie below H. -/
def RdAt (T : TypeId) (B H : Nat) (zs : List Int) (e : Int) (w : World) : Prop :=
  ∃ a l c, w.heap[B]? = some (.cells #[.slice a l c, .int .i64 e] T) ∧ Reads .u8 w a l c zs ∧ (0 < l → ∃ b off, a = some ⟨b, off, none⟩ ∧ b < H) ∧ IsBytes zs ∧ l ≤ 100000
theorem Reads.low {k : IntKind} {w w' : World} {a : Option Addr} {l c H : Nat} {zs : List Int} (h : Reads k w a l c zs) (hl : 0 < l → ∃ b off, a = some ⟨b, off, none⟩ ∧ b < H) (hb : ∀ j, j < H → w'.heap[j]? = w.heap[j]?) : Reads k w' a l c zs :=
  ⟨h.size, h.room, h.most, h.bare, fun i hi => by
    obtain ⟨b, off, ha, hc⟩ := h.cell i hi
    obtain ⟨b', off', ha', hb'⟩ := hl (by omega)
    rw [ha] at ha'
    cases ha'
    exact ⟨b, off, ha, (World.cell?_of_block (w := w) (hb b hb')).trans hc⟩⟩
theorem RdAt.frame {T : TypeId} {B H : Nat} {zs : List Int} {e : Int} {w w' : World} (h : RdAt T B H zs e w) (hB : w'.heap[B]? = w.heap[B]?) (hb : ∀ j, j < H → w'.heap[j]? = w.heap[j]?) : RdAt T B H zs e w' := by
  obtain ⟨a, l, c, h1, h2, h3, h4, h5⟩ := h
  exact ⟨a, l, c, hB.trans h1, h2.low h3 hb, h3, h4, h5⟩
theorem RdAt.lt {T : TypeId} {B H : Nat} {zs : List Int} {e : Int} {w : World} (h : RdAt T B H zs e w) : B < w.heap.size := by
  obtain ⟨a, l, c, h1, _⟩ := h
  exact (Array.getElem?_eq_some_iff.1 h1).1
theorem RdAt.but {T : TypeId} {B H : Nat} {zs : List Int} {e : Int} {w w' : World} {S : List Nat} (h : RdAt T B H zs e w) (hb : But S w w') (hB : B ∉ S) (hS : ∀ s ∈ S, H ≤ s) (hH : H ≤ B) : RdAt T B H zs e w' :=
  h.frame (hb.block B h.lt hB) fun j hj => hb.block j (by have := h.lt; omega) fun hs => by have := hS j hs; omega
theorem RdAt.below {T : TypeId} {B H D : Nat} {zs : List Int} {e : Int} {w w' : World} (h : RdAt T B H zs e w) (hb : Below D w w') (hB : B < D) (hH : H ≤ B) : RdAt T B H zs e w' :=
  h.frame (hb.block B hB) fun j hj => hb.block j (by omega)
theorem rd_cells {w : World} {B : Nat} {x y : Value} {T : TypeId} (h : w.heap[B]? = some (.cells #[x, y] T)) :
    w.cell? ⟨B, 0, none⟩ = some x ∧ w.cell? ⟨B, 1, none⟩ = some y ∧ w.frozen? ⟨B, 0, none⟩ = false ∧ w.frozen? ⟨B, 1, none⟩ = false :=
  ⟨by rw [Joins.cell_of_block h]; rfl, by rw [Joins.cell_of_block h]; rfl, Joins.unfrozen_of_block h 0, Joins.unfrozen_of_block h 1⟩
theorem rd_set0 {w : World} {B : Nat} {x y : Value} {T : TypeId} (h : w.heap[B]? = some (.cells #[x, y] T)) (v : Value) : (w.setCell ⟨B, 0, none⟩ v).heap[B]? = some (.cells #[v, y] T) := by
  rw [Joins.block_setCell h]; rfl
theorem rd_set1 {w : World} {B : Nat} {x y : Value} {T : TypeId} (h : w.heap[B]? = some (.cells #[x, y] T)) (v : Value) : (w.setCell ⟨B, 1, none⟩ v).heap[B]? = some (.cells #[x, v] T) := by
  rw [Joins.block_setCell h]; rfl
theorem set_low {w : World} {B H i : Nat} (hH : H ≤ B) (v : Value) : ∀ j, j < H → (w.setCell ⟨B, i, none⟩ v).heap[j]? = w.heap[j]? :=
  fun j hj => Below.heap_setCell _ _ _ _ (by simp; omega)

theorem numF_bad {zs : List Int} {e most : Int} (h : e ≠ 0) : numF zs e most = (0, zs, e) := by unfold numF; simp [h]
theorem numF_got {zs : List Int} {most : Int} (h : (getF zs 0 0).2.2 ≠ 0) : numF zs 0 most = (0, zs, (getF zs 0 0).2.2) := by unfold numF; simp [h]
theorem numF_big {zs : List Int} {most : Int} {q k : Int} (h : getF zs 0 0 = (q, k, 0)) (hm : most < q) : numF zs 0 most = (0, zs, 1) := by unfold numF; rw [h]; simp [hm]
theorem numF_fits {zs : List Int} {most : Int} {q : Int} {k : Nat} (h : getF zs 0 0 = (q, (k : Int), 0)) (hm : q ≤ most) : numF zs 0 most = (q, zs.drop k, 0) := by
  unfold numF; rw [h]; simp; omega

/-- What a call that reads a number has done. -/
def Numbered (T : TypeId) (B H : Nat) (r : Int × List Int × Int) (w : World) (x : Ending) (w' : World) : Prop :=
  x = .returned (.int .u64 r.1) ∧ RdAt T B H r.2.1 r.2.2 w' ∧ But [B] w w'

set_option maxHeartbeats 2000000 in
theorem number_any (B H : Nat) (zs : List Int) (e most : Int) (w : World) (h : RdAt 66 B H zs e w) (hH : H ≤ B) (m0 : 0 ≤ most) (m1 : most ≤ 18446744073709551615) :
    Calls Try.prog 56 #[.pointer (some ⟨B, 0, none⟩), .int .u64 most] w fun x w' => Numbered 66 B H (numF zs e most) w x w' := by
  obtain ⟨a, l, c, hblk, hr, hlow, hz, hl⟩ := id h
  have HB := hid hblk
  obtain ⟨c0, c1, f0, f1⟩ := rd_cells hblk
  by_cases he : e = 0
  · subst he
    have hG := get_any a l c zs w hr hz (by omega)
    by_cases hg : (getF zs 0 0).2.2 = 0
    · obtain ⟨q, hq, ht, hb⟩ := got_nat hz hg
      rw [gotV_of hq] at hG
      have hK := (encZ_len hb).1
      have hKl : (encZ (q : Int)).length ≤ l := by have := congrArg List.length ht; simp at this; have := hr.size; omega
      generalize (encZ (q : Int)).length = K at *
      have q0 : 0 ≤ (q : Int) := by omega
      generalize (q : Int) = n at *
      by_cases hm : most < n
      · have HN := hid (numF_big hq hm)
        have HR := hid h
        have HRD := hid hr
        have HLO := hid hlow
        have HZ := hid hz
        clear hblk hr hlow hz hq ht hg h
        go_enter Try.func56, Try.ntmps56
        go_wp2_with fail
        refine hG.mono ?_
        rintro x w' ⟨rfl, rfl⟩
        go_wp2
        go_ret
        unfold Numbered
        rw [HN.out]
        exact ⟨rfl, ⟨a, l, c, rd_set1 HB.out _, HRD.out.low HLO.out (set_low hH _), HLO.out, HZ.out, hl⟩, (But.refl _ _).set (by simp) _⟩
      · have HN := hid (numF_fits hq (by omega : n ≤ most))
        obtain ⟨b, off, rfl, hbH⟩ := hlow (by omega)
        have hrm := hr.room
        have hmo := hr.most
        have HZ := hid (hz.drop K)
        have hd : decide (most < n) = false := by simp; omega
        by_cases hc : c = K
        · obtain rfl : l = K := by omega
          have HV : Hid (zs.drop l = []) := List.drop_of_length_le (by rw [hr.size]; omega)
          subst hc
          clear hblk hr hlow hz hq ht hg h
          go_enter Try.func56, Try.ntmps56
          go_wp2_with fail
          refine hG.mono ?_
          rintro x w' ⟨rfl, rfl⟩
          go_wp2
          go_ret
          unfold Numbered
          rw [HN.out, HV.out]
          exact ⟨rfl, ⟨_, _, _, rd_set0 HB.out _, by simpa using Reads.void (by omega), fun h => by simp at h, fun x hx => by simp at hx, by simp⟩, (But.refl _ _).set (by simp) _⟩
        · have HP : Hid (Reads .u8 w (some ⟨b, off + K, none⟩) (l - K) (c - K) (zs.drop K)) := by
            have h1 := hr.part (p := K) (n := l - K) (by omega) hc
            rwa [List.take_of_length_le (by rw [List.length_drop, hr.size]; omega)] at h1
          clear hblk hr hlow hz hq ht hg h
          go_enter Try.func56, Try.ntmps56
          go_wp2_with fail
          refine hG.mono ?_
          rintro x w' ⟨rfl, rfl⟩
          go_wp2
          go_ret
          unfold Numbered
          rw [HN.out]
          have HL : 0 < l - K → ∃ b' off', some (⟨b, off + K, none⟩ : Addr) = some ⟨b', off', none⟩ ∧ b' < H := fun _ => ⟨b, off + K, rfl, hbH⟩
          exact ⟨rfl, ⟨_, _, _, rd_set0 HB.out _, HP.out.low HL (set_low hH _), HL, HZ.out, by omega⟩, (But.refl _ _).set (by simp) _⟩
    · have HN := hid (numF_got (most := most) hg)
      have hgV : gotV zs = .tuple #[.int .u64 0, .int .i64 0, .int .i64 (getF zs 0 0).2.2] := by
        unfold gotV; rw [(getF_err zs 0 0 hg).1, (getF_err zs 0 0 hg).2]
      rw [hgV] at hG
      generalize (getF zs 0 0).2.2 = f at *
      have HRD := hid hr
      have HLO := hid hlow
      have HZ := hid hz
      have hd : decide (f = 0) = false := by simp [hg]
      clear hblk hr hlow hz hgV h
      go_enter Try.func56, Try.ntmps56
      go_wp2_with fail
      refine hG.mono ?_
      rintro x w' ⟨rfl, rfl⟩
      go_wp2
      go_ret
      unfold Numbered
      rw [HN.out]
      exact ⟨rfl, ⟨a, l, c, rd_set1 HB.out _, HRD.out.low HLO.out (set_low hH _), HLO.out, HZ.out, hl⟩, (But.refl _ _).set (by simp) _⟩
  · have HN := hid (numF_bad (zs := zs) (most := most) he)
    clear hblk hr hlow hz
    go_enter Try.func56, Try.ntmps56
    go_wp2
    go_ret
    unfold Numbered
    rw [HN.out]
    exact ⟨rfl, h, But.refl _ _⟩

theorem anynum_any (B H : Nat) (zs : List Int) (e : Int) (w : World) (h : RdAt 66 B H zs e w) (hH : H ≤ B) :
    Calls Try.prog 55 #[.pointer (some ⟨B, 0, none⟩)] w fun x w' => Numbered 66 B H (numF zs e 18446744073709551615) w x w' := by
  have hN := number_any B H zs e 18446744073709551615 w h hH (by omega) (by omega)
  clear h
  go_enter Try.func55, Try.ntmps55
  go_wp2_with fail
  refine hN.mono ?_
  rintro x w' ⟨rfl, h1, h2⟩
  go_wp2
  go_ret
  exact ⟨rfl, h1, h2⟩

end Go.Proofs.Ytlcfjhlchpeedaa
