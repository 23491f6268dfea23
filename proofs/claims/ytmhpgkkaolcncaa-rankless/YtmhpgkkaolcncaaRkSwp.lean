/-
  The stable sort's parts over elements of k cells: what they lean on, and an exchange of two runs.
-/
import Derived.Test.YtmhpgkkaolcncaaRkStab
import Derived.Test.YtmhpgkkaolcncaaRkCd
import Derived.Shelf.SlSortCmp.KitK
import Derived.Deep.LoopGhost
namespace Go.Proofs.Ytmhpgkkaolcncaa
open Go.RowKit Go.Shelf Go.Sort Go.Lib
set_option linter.unusedVariables false
set_option maxRecDepth 1000000

/-- A program that has the stable sort's parts, at elements of k cells. -/
structure StP (P : Program) (k : Nat) : Prop where
  mixed : P.follows .mixedOrders = true
  fSt : P.funcs[32]? = some Try.f32
  fIn : P.funcs[39]? = some Try.f39
  fSy : P.funcs[40]? = some Try.f40
  fRo : P.funcs[44]? = some Try.f44
  fSw : P.funcs[45]? = some Try.f45
  t0 : P.underlying 0 = some (TypeDesc.tuple #[])
  a0 : ∀ w, (isAgg 0).run P w = .ok false w
  z0 : ∀ w, (Go.sizeOf 0).run P w = .ok 1 w
  v0 : ∀ w, (zeroValue 0).run P w = .ok (Value.tuple #[]) w
  t3 : P.underlying 3 = some (TypeDesc.int IntKind.i64)
  a3 : ∀ w, (isAgg 3).run P w = .ok false w
  z3 : ∀ w, (Go.sizeOf 3).run P w = .ok 1 w
  v3 : ∀ w, (zeroValue 3).run P w = .ok (Value.int IntKind.i64 0) w
  t4 : P.underlying 4 = some (TypeDesc.bool)
  a4 : ∀ w, (isAgg 4).run P w = .ok false w
  z4 : ∀ w, (Go.sizeOf 4).run P w = .ok 1 w
  v4 : ∀ w, (zeroValue 4).run P w = .ok (Value.bool false) w
  tS : P.underlying 48 = some (TypeDesc.slice 51)
  aS : ∀ w, (isAgg 48).run P w = .ok false w
  zS : ∀ w, (Go.sizeOf 48).run P w = .ok 1 w
  vS : ∀ w, (zeroValue 48).run P w = .ok (Value.slice none 0 0) w
  tF : P.underlying 59 = some (TypeDesc.func #[51, 51] #[3] false)
  aF : ∀ w, (isAgg 59).run P w = .ok false w
  zF : ∀ w, (Go.sizeOf 59).run P w = .ok 1 w
  vF : ∀ w, (zeroValue 59).run P w = .ok (Value.nilFunc) w
  tU : P.underlying 78 = some (TypeDesc.int IntKind.u64)
  aU : ∀ w, (isAgg 78).run P w = .ok false w
  zU : ∀ w, (Go.sizeOf 78).run P w = .ok 1 w
  vU : ∀ w, (zeroValue 78).run P w = .ok (Value.int IntKind.u64 0) w
  aE : ∀ w, (isAgg 51).run P w = .ok true w
  zE : ∀ w, (Go.sizeOf 51).run P w = .ok k w
theorem stP7 : StP Try.prog 7 where
  mixed := by kernel_rfl
  fSt := Try.func32
  fIn := Try.func39
  fSy := Try.func40
  fRo := Try.func44
  fSw := Try.func45
  t0 := by kernel_rfl
  a0 w := by kernel_rfl
  z0 w := by kernel_rfl
  v0 w := by kernel_rfl
  t3 := by kernel_rfl
  a3 w := by kernel_rfl
  z3 w := by kernel_rfl
  v3 w := by kernel_rfl
  t4 := by kernel_rfl
  a4 w := by kernel_rfl
  z4 w := by kernel_rfl
  v4 w := by kernel_rfl
  tS := by kernel_rfl
  aS w := by kernel_rfl
  zS w := by kernel_rfl
  vS w := by kernel_rfl
  tF := by kernel_rfl
  aF w := by kernel_rfl
  zF w := by kernel_rfl
  vF w := by kernel_rfl
  tU := by kernel_rfl
  aU w := by kernel_rfl
  zU w := by kernel_rfl
  vU w := by kernel_rfl
  aE w := by kernel_rfl
  zE w := by kernel_rfl
/-- The runs of n cells from a and from b are exchanged as far as i. -/
structure SwR (d : Array Cd) (a b i : Nat) (d' : Array Cd) : Prop where
  size : d'.size = d.size
  at' : ∀ x, d'[x]! = if a ≤ x ∧ x < a + i then d[x - a + b]! else if b ≤ x ∧ x < b + i then d[x - b + a]! else d[x]!
theorem SwR.zero (d : Array Cd) (a b : Nat) : SwR d a b 0 d := ⟨rfl, fun x => by rw [if_neg (by omega), if_neg (by omega)]⟩
theorem SwR.next {d d' : Array Cd} {a b i : Nat} (h : SwR d a b i d') (hab : a + i < b) (hb : b + i < d.size) : SwR d a b (i + 1) (swp d' (a + i) (b + i)) := by
  refine ⟨by rw [size_swp, h.size], fun x => ?_⟩
  rw [swp_get d' (by rw [h.size]; omega) (by rw [h.size]; omega)]
  simp only [h.at']
  repeat' split
  all_goals first | (exfalso; omega) | rfl | (congr 1; omega)
set_option maxHeartbeats 8000000 in
theorem swapRange_any {P : Program} {k : Nat} (L : StP P k) {enc : Cd → List Value} {g : Nat} {cb : Array Value} {blk off cap a b n N : Nat} {d0 d : Array Cd} {w0 w : World} (R : RowK enc k w0 blk off d0) (hN : d.size = N) (hs : d0.size = N) (S : SWK enc k w0 blk off d w) (hab : a + n ≤ b) (hb : b + n ≤ N) (hsz : N ≤ 100000) :
    Calls P 45 #[.slice (some ⟨blk, off, none⟩) N cap, .int .i64 a, .int .i64 b, .int .i64 n, .func (.func g) #[] cb] w fun e w' => e = .returned (.tuple #[]) ∧ Hid (∃ d' : Array Cd, SwR d a b n d' ∧ SWK enc k w0 blk off d' w') := by
  have mixed := L.mixed; have t0 := L.t0; have a0 := L.a0; have z0 := L.z0; have v0 := L.v0; have t3 := L.t3; have a3 := L.a3; have z3 := L.z3; have v3 := L.v3; have t4 := L.t4; have a4 := L.a4; have z4 := L.z4; have v4 := L.v4; have tS := L.tS; have aS := L.aS; have zS := L.zS; have vS := L.vS; have tF := L.tF; have aF := L.aF; have zF := L.zF; have vF := L.vF; have aE := L.aE; have zE := L.zE
  have FG := L.fSw
  have S0 : Aside (SWK enc k w0 blk off d w) := S
  clear S
  go_enter FG, Try.ntmps45
  go_wp2
  go_loopg [10] n (fun kx s10 wr => ∃ (i : Nat) (dk : Array Cd), s10 = .int .i64 i ∧ i ≤ n ∧ n - i ≤ kx ∧ Aside (SwR d a b i dk) ∧ Aside (SWK enc k w0 blk off dk wr))
  case atStart => exact ⟨0, d, rfl, by omega, by omega, SwR.zero d a b, S0⟩
  case round =>
    clear S0
    obtain ⟨i, dk, rfl, hi, hkx, hds, S1⟩ := hrel
    have hsz' : dk.size = N := hds.out.size.trans hN
    by_cases hlt : (i : Int) < (n : Int)
    · go_wp2_with fail
      have ea44 : ((a : Int) + (i : Int)).toNat = a + i := by omega
      have pa44 : (0 : Int) ≤ (a : Int) + (i : Int) := by omega
      have ba44 : (a : Int) + (i : Int) < (N : Int) := by omega
      have ra44 : IntKind.i64.wrap ((a : Int) + (i : Int)) = (a : Int) + (i : Int) := by rw [IntKind.wrap_i64]; omega
      have ec44 : ((b : Int) + (i : Int)).toNat = b + i := by omega
      have pc44 : (0 : Int) ≤ (b : Int) + (i : Int) := by omega
      have bc44 : (b : Int) + (i : Int) < (N : Int) := by omega
      have rc44 : IntKind.i64.wrap ((b : Int) + (i : Int)) = (b : Int) + (i : Int) := by rw [IntKind.wrap_i64]; omega
      have S2 : Aside (SWK enc k w0 blk off (swp dk (a + i) (b + i)) ((wr.drew.setCells blk (off + (a + i) * k) (enc dk[b + i]!)).setCells blk (off + (b + i) * k) (enc dk[a + i]!))) := S1.out.swapped R (a + i) (b + i) (by omega) (by omega)
      have l44a := S1.out.ld1 R (by omega) P (a + i) (by omega)
      have l44b := S1.out.ld1 R (by omega) P (b + i) (by omega)
      have s44a := S1.out.st1 R (by omega) P (a + i) (by omega) dk[b + i]!
      have s44b := S1.out.st2 R (by omega) P (a + i) (b + i) (by omega) (by omega) dk[b + i]! dk[a + i]!
      have n44a : (enc dk[a + i]!).length = k := R.hk _
      have n44b : (enc dk[b + i]!).length = k := R.hk _
      generalize enc dk[a + i]! = cI44 at S2 l44a s44b n44a
      generalize enc dk[b + i]! = cJ44 at S2 l44b s44a s44b n44b
      clear S1
      go_big_region_o
      all_goals
        clear l44a l44b s44a s44b
        generalize (wr.drew.setCells blk (off + (a + i) * k) cJ44).setCells blk (off + (b + i) * k) cI44 = w2 at S2 ⊢
        go_wp2
        go_roundg (n - (i + 1))
        case measure => omega
        case rel => exact ⟨i + 1, _, by go_num, by omega, Nat.le_refl _, hds.out.next (by omega) (by omega), S2⟩
    · go_wp2
      go_end0
      obtain rfl : i = n := by omega
      exact ⟨rfl, ⟨dk, hds.out, S1.out⟩⟩
end Go.Proofs.Ytmhpgkkaolcncaa
