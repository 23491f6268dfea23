/-
  The texts EnWant, EnMath2 of this proof.
-/
import Derived.Test.YtjgggialnegddaaGreatPn26
set_option linter.unusedVariables false
set_option maxRecDepth 1000000
namespace Go.Proofs.YtjgggialnegddaaGreat
open Go.RowKit
def MgC (m : Mg) (la : Option Addr) (ll lc : Nat) : Array Value := #[.int .i64 m.kind, .int .u64 0, .int .u64 0, .int .u64 m.att, .int .u64 m.inc, .int .u64 m.n, .int .u64 m.cnt, .int .i64 m.why, .int .u64 0, .slice none 0 0, .int .i64 0, .slice la ll lc]
structure MgsAt (lo : Nat) (W : World) (a : Option Addr) (len cap : Nat) (ms : List Mg) : Prop where
 size : ms.length = len
 room : len ≤ cap
 most : cap ≤ 9223372036854775807
 bare : a = none → len = 0 ∧ cap = 0
 cell : ∀ i (hi : i < ms.length), ∃ b off la ll lc, a = some ⟨b, off, none⟩ ∧ (∀ j, j < 12 → W.cell? ⟨b, off + i * 12 + j, none⟩ = (MgC ms[i] la ll lc)[j]?) ∧ Reads .i64 W la ll lc ms[i].li ∧ ∀ p, la = some p → lo ≤ p.block
theorem MgsAt.at {lo : Nat} {W : World} {a : Option Addr} {len cap : Nat} {ms : List Mg} (h : MgsAt lo W a len cap ms) {i : Nat} (hi : i < ms.length) : ∃ b off la ll lc, a = some ⟨b, off, none⟩ ∧ Reads .i64 W la ll lc ms[i].li ∧ (∀ p, la = some p → lo ≤ p.block) ∧
  W.cell? ⟨b, off + i * 12 + 0, none⟩ = some (.int .i64 ms[i].kind) ∧ W.cell? ⟨b, off + i * 12 + 1, none⟩ = some (.int .u64 0) ∧ W.cell? ⟨b, off + i * 12 + 2, none⟩ = some (.int .u64 0) ∧ W.cell? ⟨b, off + i * 12 + 3, none⟩ = some (.int .u64 ms[i].att) ∧ W.cell? ⟨b, off + i * 12 + 4, none⟩ = some (.int .u64 ms[i].inc) ∧ W.cell? ⟨b, off + i * 12 + 5, none⟩ = some (.int .u64 ms[i].n) ∧ W.cell? ⟨b, off + i * 12 + 6, none⟩ = some (.int .u64 ms[i].cnt) ∧ W.cell? ⟨b, off + i * 12 + 7, none⟩ = some (.int .i64 ms[i].why) ∧ W.cell? ⟨b, off + i * 12 + 8, none⟩ = some (.int .u64 0) ∧ W.cell? ⟨b, off + i * 12 + 9, none⟩ = some (.slice none 0 0) ∧ W.cell? ⟨b, off + i * 12 + 10, none⟩ = some (.int .i64 0) ∧ W.cell? ⟨b, off + i * 12 + 11, none⟩ = some (.slice la ll lc) := by
 obtain ⟨b, off, la, ll, lc, h1, h2, h3, h4⟩ := h.cell i hi
 exact ⟨b, off, la, ll, lc, h1, h3, h4, h2 0 (by omega), h2 1 (by omega), h2 2 (by omega), h2 3 (by omega), h2 4 (by omega), h2 5 (by omega), h2 6 (by omega), h2 7 (by omega), h2 8 (by omega), h2 9 (by omega), h2 10 (by omega), h2 11 (by omega)⟩
structure OkR (S : Rs) : Prop where
 set : setB S.s = true
 inc : 1 ≤ S.inc ∧ S.inc ≤ 9223372036854775808
 one : (S.L.map (·.id)).Nodup
 few : (S.L.length : Int) ≤ S.s.q + S.s.b
 ok : ∀ a ∈ S.L, isU a.id ∧ isU a.seed ∧ a.most ≤ 256 ∧ a.k ≤ a.most ∧ a.ts.length + a.k < 256
end Go.Proofs.YtjgggialnegddaaGreat
namespace Go.Proofs.YtjgggialnegddaaGreat
open Go.RowKit
theorem runL_ids (b : Nat) : ∀ (L : List At) (n : Nat), (runL b n L).map (·.id) = L.map (·.id)
 | [], n => rfl
 | a :: L, n => by
  simp only [runL]
  split
  ·simp [runL_ids b L]
  ·split <;> simp [runL_ids b L]
theorem step_one {S S' : Rs} {ms : List Mg} {a : At} (h : StepR S ms S') (hL : S.L = [a]) (hb : 1 ≤ S.s.b.toNat) (hk : a.k ≤ (a.text S.s.c).length) :
  ∃ told, told = ((a.text S.s.c).drop a.k).take S.s.ch.toNat ∧
   ((told.length = S.s.ch.toNat ∧ ms = (if told = [] then [] else [emM a.id S.inc a.k told]) ∧ S' = { S with L := [{ a with run := true, k := a.k + told.length }], tk := S.tk + 32 }) ∨
    (a.k + told.length = (a.text S.s.c).length ∧ ms = (if told = [] then [] else [emM a.id S.inc a.k told]) ++ [ovM a.id S.inc (a.k + told.length : Nat) 1] ∧ S' = { S with L := [], tk := S.tk + 32 })) := by
 obtain ⟨L', h1, rfl⟩ := h
 have hr : runL S.s.b.toNat 0 S.L = [{ a with run := true }] := by
  rw [hL]
  obtain ⟨id, sd, ts, mo, k, r⟩ := a
  cases r
  ·simp [runL, show 0 < S.s.b.toNat by omega]
  ·simp [runL]
 rw [hr] at h1
 rcases h1 with ⟨h', _⟩ | ⟨_, m1, m2, o, L2, rfl, rfl, h2, h3, h4⟩
 ·cases h'
 subst h3 h4
 have ht : At.text S.s.c { a with run := true } = a.text S.s.c := rfl
 rcases h2 with ⟨h4, _⟩ | ⟨h4, told, e1, ⟨e2, e3, e4⟩ | ⟨e2, e3, e4⟩⟩
 ·rw [ht] at h4
  exact absurd h4 (by simp only; omega)
 ·rw [ht] at e1
  exact ⟨told, e1, .inl ⟨e2, by rw [e3]; simp, by rw [e4]; simp⟩⟩
 ·rw [ht] at e1 e2
  exact ⟨told, e1, .inr ⟨e2, by rw [e3]; simp, by rw [e4]; simp⟩⟩
theorem hasB_iff {L : List At} {id : Int} : hasB L id = true ↔ id ∈ L.map (·.id) := by
 unfold hasB
 rw [List.any_eq_true, List.mem_map]
 constructor
 ·rintro ⟨a, h1, h2⟩
  exact ⟨a, h1, by simpa using h2⟩
 ·rintro ⟨a, h1, h2⟩
  exact ⟨a, h1, by simpa using h2⟩
end Go.Proofs.YtjgggialnegddaaGreat
