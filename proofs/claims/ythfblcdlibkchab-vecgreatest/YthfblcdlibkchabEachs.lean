/-
  A frame that says which blocks a callee may have turned (But), and contracts: count, each (with whatever function it is handed).
-/
import Derived.Test.YthfblcdlibkchabReads
import Derived.Test.YthfblcdlibkchabRoots
import Derived.Handy
import Derived.Laws.OwnMore
import Derived.OwnWalk
import Derived.OneCell
namespace Go.Proofs.Ythfblcdlibkchab
open Go.RowKit
set_option linter.unusedVariables false
set_option maxRecDepth 1000000

/-- Of the blocks that are there only those of S may have turned. -/
structure But (S : List Nat) (w w' : World) : Prop where
  os : w'.os = w.os
  tape : w'.tape = w.tape
  output : w'.output = w.output
  size : w.heap.size ≤ w'.heap.size
  block : ∀ k, k < w.heap.size → k ∉ S → w'.heap[k]? = w.heap[k]?
theorem But.refl (S : List Nat) (w : World) : But S w w := ⟨rfl, rfl, rfl, Nat.le_refl _, fun _ _ _ => rfl⟩
theorem But.trans {S : List Nat} {a b c : World} (h : But S a b) (k : But S b c) : But S a c :=
  ⟨k.os.trans h.os, k.tape.trans h.tape, k.output.trans h.output, Nat.le_trans h.size k.size, fun i hi hn => (k.block i (Nat.lt_of_lt_of_le hi h.size) hn).trans (h.block i hi hn)⟩
theorem But.mono {S S' : List Nat} {a b : World} (h : But S a b) (hS : ∀ s ∈ S, s ∈ S') : But S' a b := ⟨h.os, h.tape, h.output, h.size, fun i hi hn => h.block i hi fun hs => hn (hS i hs)⟩
theorem But.below {S : List Nat} {a b c : World} (h : But S a b) (k : Below a.heap.size b c) : But S a c :=
  ⟨k.os.trans h.os, k.tape.trans h.tape, k.output.trans h.output, Nat.le_trans h.size k.size, fun i hi hn => (k.block i hi).trans (h.block i hi hn)⟩
theorem But.of {S : List Nat} {a b : World} (k : Below a.heap.size a b) : But S a b := (But.refl S a).below k
theorem But.set {S : List Nat} {a b : World} (h : But S a b) {p : Addr} (hp : p.block ∈ S) (u : Value) : But S a (b.setCell p u) :=
  h.trans ⟨rfl, rfl, rfl, by simp [World.setCell], fun k _ hk => Below.heap_setCell _ _ _ _ (fun e => hk (e ▸ hp))⟩
theorem But.drew {S : List Nat} {a b : World} (h : But S a b) : But S a b.drew := ⟨h.os, h.tape, h.output, h.size, h.block⟩
theorem But.alloc {S : List Nat} {a b : World} (h : But S a b) (o : Obj) : But S a (b.alloc o) := h.below ((Below.refl _ _).alloc h.size o)
theorem But.to {S : List Nat} {a b : World} {B : Nat} (h : But S a b) (hS : ∀ s ∈ S, B ≤ s) (hB : B ≤ a.heap.size) : Below B a b :=
  ⟨h.os, h.tape, h.output, h.size, fun k hk => h.block k (by omega) fun hs => by have := hS k hs; omega⟩

theorem But.cell {S : List Nat} {w w' : World} (h : But S w w') {p : Addr} {v : Value} (hc : w.cell? p = some v) (hp : p.block ∉ S) : w'.cell? p = some v :=
  (World.cell?_of_block (w := w) (h.block p.block (World.block_lt_of_cell? _ _ hc) hp)).trans hc
theorem But.one {S : List Nat} {w w' : World} (h : But S w w') {B : Nat} {o : Obj} (hc : w.heap[B]? = some o) (hp : B ∉ S) : w'.heap[B]? = some o := (h.block B (lt_of_block hc) hp).trans hc

theorem count_any (a : Option Addr) (len cap : Nat) (w : World) (hlen : len ≤ 1000) :
    Calls Try.prog 18 #[.slice a len cap] w fun e w' => e = .returned (.int .i64 len) ∧ w' = w := by
  go_enter Try.func18, Try.ntmps18
  go_wp2
  go_ret
  exact ⟨rfl, rfl⟩

theorem each_any (fn : Nat) (caps : Array Value) (a : Option Addr) (len cap : Nat) (zs : List Int) (w : World) (hlen : len ≤ 1000) (I : Nat → World → Prop)
    (hE : ∀ args w, (callFunc fn args).run Try.prog w = .ok (.enter fn args) w) (hR : ∀ k wr, I k wr → Reads .i64 wr a len cap zs) (h0 : I 0 w)
    (hS : ∀ k wr, k < len → I k wr → Calls Try.prog fn (#[.int .i64 (k : Int), .int .i64 (zs[k]?.getD 0)] ++ caps) wr fun e w' => e = .returned (.tuple #[]) ∧ I (k + 1) w') :
    Calls Try.prog 19 #[.slice a len cap, .func (.func fn) #[] caps] w fun e w' => e = .returned (.tuple #[]) ∧ I len w' := by
  have hr0 := hR 0 w h0
  have hroom := hr0.room
  have hmost := hr0.most
  have hbare := hr0.bare
  clear hr0
  have H0 := hid h0
  have HR := hid hR
  have HS := hid hS
  clear h0 hR hS
  go_enter Try.func19, Try.ntmps19
  cases a with
  | none =>
    obtain ⟨rfl, rfl⟩ := hbare rfl
    go_wp2_with fail
    refine (count_any _ _ _ _ (by omega)).mono ?_
    rintro e w' ⟨rfl, rfl⟩
    go_wp2_with fail
    go_loopw [11] (fun i wr => ∃ k : Nat, k = 0 ∧ i = .int .i64 k ∧ Hid (I k wr)) (fun i _ => 0 - (intOf i).toNat)
    case atStart => exact ⟨0, rfl, rfl, H0⟩
    case round =>
      obtain ⟨k, rfl, rfl, HI⟩ := hrel
      go_wp2
      go_end0
      exact ⟨rfl, HI.out⟩
  | some ad =>
    clear hbare
    go_wp2_with fail
    refine (count_any _ _ _ _ (by omega)).mono ?_
    rintro e w' ⟨rfl, rfl⟩
    go_wp2_with fail
    go_loopw [11] (fun i wr => ∃ k : Nat, k ≤ len ∧ i = .int .i64 k ∧ Hid (I k wr)) (fun i _ => len - (intOf i).toNat)
    case atStart => exact ⟨0, Nat.zero_le _, rfl, H0⟩
    case round =>
      obtain ⟨k, hk, rfl, HI⟩ := hrel
      by_cases hlt : k < len
      · obtain ⟨b, off, hab, hc⟩ := (HR.out k wr HI.out).cell k hlt
        cases hab
        have hC := HS.out k wr hlt HI.out
        generalize zs[k]?.getD 0 = z at *
        go_wp2_with fail
        refine hC.mono ?_
        rintro e w2 ⟨rfl, hI2⟩
        have HI2 := hid hI2
        clear hI2 hC
        go_wp2_with fail
        go_round
        case rel => exact ⟨k + 1, by omega, by go_num, HI2⟩
        case measure => simp [intOf]; omega
      · obtain rfl : k = len := by omega
        go_wp2
        go_end0
        exact ⟨rfl, HI.out⟩
end Go.Proofs.Ythfblcdlibkchab
