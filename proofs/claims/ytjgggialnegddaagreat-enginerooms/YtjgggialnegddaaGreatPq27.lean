/-
  The texts EnFar of this proof.
-/
import Derived.Test.YtjgggialnegddaaGreatPq25
import Derived.Lib.AppendZeros
import Derived.Test.YtjgggialnegddaaGreatPq24
set_option linter.unusedVariables false
set_option maxRecDepth 1000000
namespace Go.Proofs.YtjgggialnegddaaGreat
open Go.RowKit
def farB (s : Sp) : Bool := decide (8 < s.m.job.lp) || ((decide (10 < s.m.job.most) && decide (s.m.job.most ≤ 256)) || decide (100 < s.m.ll))
theorem Lst.below {w w' : World} {a : Option Addr} {len cap k : Nat} {α : Type} {xs : List α} {V : α → Array Value} {I I' : α → Prop} (h : Lst w a len cap k xs V I) (hb : Below w.heap.size w w') (hV : ∀ x, (V x).size = k) (hI : ∀ x, I x → I' x) : Lst w' a len cap k xs V I' :=
 ⟨h.size, h.room, h.most, h.bare, fun i hi => by
  obtain ⟨b, off, h1, h2⟩ := h.cell i hi
  refine ⟨b, off, h1, fun j hj => ?_⟩
  have h5 := h2 j hj
  have hsz : j < (V xs[i]).size := by rw [hV]; exact hj
  rw [Array.getElem?_eq_getElem hsz] at h5 ⊢
  exact (hb.cell (World.block_lt_of_cell? _ _ h5)).trans h5, fun i hi => hI _ (h.inn i hi)⟩
theorem Lst.cut {w : World} {a : Option Addr} {len cap k : Nat} {α : Type} {xs : List α} {V : α → Array Value} {I : α → Prop} (h : Lst w a len cap k xs V I) {m : Nat} (hm : m ≤ len) : Lst w a m cap k (xs.take m) V I :=
 ⟨by rw [List.length_take, h.size]; omega, by have := h.room; omega, h.most, fun e => by have := h.bare e; omega, fun i hi => by
  rw [List.length_take] at hi
  obtain ⟨b, off, h1, h2⟩ := h.cell i (by omega)
  refine ⟨b, off, h1, fun j hj => ?_⟩
  rw [List.getElem_take]
  exact h2 j hj, fun i hi => by
  rw [List.length_take] at hi
  rw [List.getElem_take]
  exact h.inn i (by omega)⟩
theorem Lst.sp {w : World} {a : Option Addr} {len cap : Nat} {xs : List Sp} {I : Sp → Prop} (h : Lst w a len cap 14 xs SpV I) {i : Nat} (hi : i < xs.length) : ∃ b off, a = some ⟨b, off, none⟩ ∧
  w.cell? ⟨b, off + i * 14, none⟩ = some (.int .u8 xs[i].kd) ∧ w.cell? ⟨b, off + i * 14 + 1, none⟩ = some (.bool xs[i].now) ∧ w.cell? ⟨b, off + i * 14 + 2, none⟩ = some (.int .i64 xs[i].m.kind) ∧ w.cell? ⟨b, off + i * 14 + 3, none⟩ = some (.int .u64 xs[i].m.st) ∧ w.cell? ⟨b, off + i * 14 + 4, none⟩ = some (.int .u64 xs[i].m.se) ∧ w.cell? ⟨b, off + i * 14 + 5, none⟩ = some (.int .u64 xs[i].m.att) ∧ w.cell? ⟨b, off + i * 14 + 6, none⟩ = some (.int .u64 xs[i].m.inc) ∧ w.cell? ⟨b, off + i * 14 + 7, none⟩ = some (.int .u64 xs[i].m.n) ∧ w.cell? ⟨b, off + i * 14 + 8, none⟩ = some (.int .u64 xs[i].m.cnt) ∧ w.cell? ⟨b, off + i * 14 + 9, none⟩ = some (.int .i64 xs[i].m.why) ∧ w.cell? ⟨b, off + i * 14 + 10, none⟩ = some (.int .u64 xs[i].m.job.seed) ∧ w.cell? ⟨b, off + i * 14 + 11, none⟩ = some (.slice xs[i].m.job.ap xs[i].m.job.lp xs[i].m.job.cp) ∧ w.cell? ⟨b, off + i * 14 + 12, none⟩ = some (.int .i64 xs[i].m.job.most) ∧ w.cell? ⟨b, off + i * 14 + 13, none⟩ = some (.slice xs[i].m.la xs[i].m.ll xs[i].m.lc) := by
 obtain ⟨b, off, h1, h2⟩ := h.cell i hi
 exact ⟨b, off, h1, h2 0 (by omega), h2 1 (by omega), h2 2 (by omega), h2 3 (by omega), h2 4 (by omega), h2 5 (by omega), h2 6 (by omega), h2 7 (by omega), h2 8 (by omega), h2 9 (by omega), h2 10 (by omega), h2 11 (by omega), h2 12 (by omega), h2 13 (by omega)⟩
theorem SpV_size (s : Sp) : (SpV s).size = 14 := rfl
set_option maxHeartbeats 4000000 in
theorem far15_any (a : Option Addr) (len cap : Nat) (xs : List Sp) (w : World) (h : Lst w a len cap 14 xs SpV (fun s => SpOk w s)) :
  Calls Tryz.prog 10 #[.slice a len cap] w fun e w' => e = .returned (.bool ((xs.take (min len 30)).any farB)) ∧ Below w.heap.size w w' := by
 obtain ⟨M, hM⟩ : ∃ M, min len 30 = M := ⟨_, rfl⟩
 have hSh := short15_any a len cap w h.room h.most
 have r1 : M ≤ cap := by have := h.room; omega
 have m1 := h.most
 have hM3 : M ≤ 30 := by omega
 rw [hM] at hSh ⊢
 have hc := h.cut (m := M) (by omega)
 obtain ⟨ys, hys⟩ : ∃ ys, xs.take M = ys := ⟨_, rfl⟩
 rw [hys] at hc ⊢
 have HL : Hid (∀ W : World, Below w.heap.size w W → Lst W a M cap 14 ys SpV (fun s => SpOk W s)) := fun W hb => hc.below hb SpV_size fun x hx => hx.below hb
 have HS := hid hc.size
 clear h hc hys hM
 go_enter Tryz.func10, Tryz.ntmps10
 go_wp2_with fail
 refine hSh.mono ?_
 rintro e w' ⟨rfl, rfl⟩
 clear hSh
 go_wp2_with fail
 go_loopw [8] (fun i W => ∃ k : Nat, k ≤ M ∧ i = .int .i64 k ∧ Hid ((ys.take k).any farB = false) ∧ Hid (Below w'.heap.size w' W)) (fun i _ => M - (intOf i).toNat)
 case atStart => exact ⟨0, Nat.zero_le _, rfl, by unfold Hid; rw [List.take_zero]; rfl, Below.refl _ _⟩
 case round =>
 obtain ⟨k, hk, rfl, HN, HV⟩ := hrel
 rename World => wr
 by_cases hlt : k < M
 ·have q1 : (k : Int) < (M : Int) := by omega
  have hkl : k < ys.length := by rw [HS.out]; exact hlt
  obtain ⟨b, off, rfl, c0, c1, c2, c3, c4, c5, c6, c7, c8, c9, c10, c11, c12, c13⟩ := (HL.out wr HV.out).sp hkl
  have hin := (HL.out wr HV.out).inn k hkl
  have p1 := hin.inn.job.room
  have p2 := hin.inn.job.most
  have p3 := hin.inn.list.room
  have p4 := hin.inn.list.most
  have hy : ys.take (k + 1) = ys.take k ++ [ys[k]] := List.take_succ_eq_append_getElem hkl
  have HAny : Hid (farB ys[k] = true → ys.any farB = true) := fun hf => List.any_eq_true.2 ⟨ys[k], List.getElem_mem _, hf⟩
  have HNx : Hid (farB ys[k] = false → (ys.take (k + 1)).any farB = false) := fun hf => by rw [hy, List.any_append, HN.out]; simp [hf]
  clear hin hy HN
  generalize ys[k] = s at *
  obtain ⟨kd, nw, ⟨mk, st, se, ate, ic, n, ct, wh, ⟨sd, ap, lp, cp, pr, mo⟩, la, ll, lc, li⟩⟩ := s
  simp only at c0 c1 c2 c3 c4 c5 c6 c7 c8 c9 c10 c11 c12 c13 p1 p2 p3 p4
  have HVa := hid fun (o : Obj) => HV.out.alloc HV.out.size o
  by_cases a1 : 8 < lp
  ·have b1 : (8 : Int) < (lp : Int) := by omega
   have HR := hid (HAny.out (by unfold farB; simp; omega))
   clear HAny HNx HL
   go_wp2
   go_ret
   exact ⟨by rw [HR.out]; rfl, HVa.out _⟩
  have b1 : ¬ (8 : Int) < (lp : Int) := by omega
  by_cases a2 : 10 < mo
  ·by_cases a3 : mo ≤ 256
   ·skip
    have HR := hid (HAny.out (by unfold farB; simp; omega))
    clear HAny HNx HL
    go_wp2
    go_ret
    exact ⟨by rw [HR.out]; rfl, HVa.out _⟩
   ·by_cases a4 : 100 < ll
    ·have b4 : (100 : Int) < (ll : Int) := by omega
     have HR := hid (HAny.out (by unfold farB; simp; omega))
     clear HAny HNx HL
     go_wp2
     go_ret
     exact ⟨by rw [HR.out]; rfl, HVa.out _⟩
    ·have b4 : ¬ (100 : Int) < (ll : Int) := by omega
     have HR := hid (HNx.out (by unfold farB; simp; omega))
     clear HAny HNx HL
     go_wp2_with fail
     go_round
     case rel => exact ⟨k + 1, by omega, by go_num, HR, HVa.out _⟩
     case measure => simp [intOf]; omega
  ·by_cases a4 : 100 < ll
   ·have b4 : (100 : Int) < (ll : Int) := by omega
    have HR := hid (HAny.out (by unfold farB; simp; omega))
    clear HAny HNx HL
    go_wp2
    go_ret
    exact ⟨by rw [HR.out]; rfl, HVa.out _⟩
   ·have b4 : ¬ (100 : Int) < (ll : Int) := by omega
    have HR := hid (HNx.out (by unfold farB; simp; omega))
    clear HAny HNx HL
    go_wp2_with fail
    go_round
    case rel => exact ⟨k + 1, by omega, by go_num, HR, HVa.out _⟩
    case measure => simp [intOf]; omega
 ·obtain rfl : k = M := by omega
  have HE : Hid (ys.any farB = false) := by
   have := HN.out
   rw [List.take_of_length_le (by rw [HS.out]; exact Nat.le_refl _)] at this
   exact this
  have q1 : ¬ (k : Int) < (k : Int) := by omega
  clear HN HL
  go_wp2
  go_ret
  exact ⟨by rw [HE.out]; rfl, HV.out⟩
end Go.Proofs.YtjgggialnegddaaGreat
