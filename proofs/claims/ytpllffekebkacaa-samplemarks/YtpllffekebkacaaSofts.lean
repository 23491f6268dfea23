/-
  Contracts: Norm and Soft.
-/
import Derived.Test.YtpllffekebkacaaPairs
namespace Go.Proofs.Ytpllffekebkacaa
open Go.RowKit
set_option linter.unusedVariables false
set_option maxRecDepth 1000000

/-- The sum of the first k, in order. -/
def sumK (ps : List Int) : Nat → Int
  | 0 => 0
  | k + 1 => addZ (sumK ps k) (ps[k]?.getD 0)
/-- What the places of a vector are divided by, that its length be 1. -/
def rootZ (zs : List Int) : Int := sqrtZ (addZ (divZ (dotK zs zs zs.length) (fromZ zs.length)) 1)
def normL (zs : List Int) : List Int := zs.map (divZ · (rootZ zs))
/-- The powers of which weights are made. -/
def powL (zs : List Int) : List Int := zs.map fun x => expZ (addZ x (-(greatK zs zs.length)))
def softL (zs : List Int) : List Int := (powL zs).map (divZ · (sumK (powL zs) zs.length))
theorem powL_len (zs : List Int) : (powL zs).length = zs.length := by simp [powL]

theorem norm_any (a : Option Addr) (len cap : Nat) (zs : List Int) (w : World) (ha : Reads .i64 w a len cap zs) (hlen : len ≤ 1000) :
    Calls Try.prog 35 #[.slice a len cap] w fun e w' => Made w len (normL zs) e w' := by
  have hz := ha.size
  subst hz
  have hD := dot_any a a _ cap _ cap zs zs w ha ha hlen hlen
  rw [Nat.min_self] at hD
  have HR : Hid (sqrtZ (addZ (divZ (dotK zs zs zs.length) (fromZ zs.length)) 1) = rootZ zs) := rfl
  have HE : Hid (∀ w1, Below w.heap.size w w1 → Calls Try.prog 64 #[.slice a zs.length cap, .func (.func 65) #[] #[.pointer (some ⟨w1.heap.size, 0, none⟩)]] (w1.alloc (.cells #[.int .i64 (rootZ zs)] 2))
      fun e w' => Made w zs.length (normL zs) e w') := by
    intro w1 hb1
    have hn := SumAt.new w1 (rootZ zs)
    have hsz : w.heap.size ≤ (w1.alloc (.cells #[.int .i64 (rootZ zs)] 2)).heap.size := by have := hb1.size; simp; omega
    refine (madeof_any 65 #[.pointer (some ⟨w1.heap.size, 0, none⟩)] (enters_of Try.func65 (by kernel_rfl) rfl) a zs.length cap zs _ ((ha.below hb1).below hn.2) hlen (divZ · (rootZ zs)) fun x wr hb => (norm1_any x (rootZ zs) w1.heap.size wr ((hb.block _ (lt_of_block hn.1)).trans hn.1)).mono fun e w' ⟨h1, h2⟩ => ⟨h1, by rw [h2]; exact Below.refl _ _⟩).mono ?_
    rintro e w' ⟨g, rfl, hO, hb⟩
    exact ⟨g, _, rfl, hO.low hsz, hb1.trans ((hn.2.mono hb1.size).trans (hb.mono hsz))⟩
  clear ha
  go_enter Try.func35, Try.ntmps35
  go_wp2_with fail
  refine hD.mono ?_
  rintro e w1 ⟨rfl, hb1⟩
  have hE := HE.out w1 hb1
  clear HE hD hb1
  go_wp2_with fail
  refine (count_any _ _ _ _ hlen).mono ?_
  rintro e w' ⟨rfl, rfl⟩
  go_wp2_with fail
  refine (from_any _ _).mono ?_
  rintro e w' ⟨rfl, rfl⟩
  go_wp2_with fail
  refine (div_any _ _ _).mono ?_
  rintro e w' ⟨rfl, rfl⟩
  go_wp2_with fail
  refine (add_any _ _ _).mono ?_
  rintro e w' ⟨rfl, rfl⟩
  go_wp2_with fail
  refine (sqrt_any _ _).mono ?_
  rintro e w' ⟨rfl, rfl⟩
  rw [HR.out]
  go_wp2_with fail
  refine hE.mono ?_
  rintro e w' ⟨g, cap', rfl, hO, hb⟩
  have HO := hid hO
  have HB := hid hb
  clear hO hb hE
  go_wp2
  go_ret
  exact ⟨_, _, rfl, HO.out, HB.out⟩

theorem soft_any (a : Option Addr) (len cap : Nat) (zs : List Int) (w : World) (ha : Reads .i64 w a len cap zs) (hlen : len ≤ 1000) :
    Calls Try.prog 50 #[.slice a len cap] w fun e w' => Made w len (softL zs) e w' := by
  have hz := ha.size
  subst hz
  have hG := greatest_any a _ cap zs w ha hlen
  have HE1 : Hid (∀ w1, Below w.heap.size w w1 → Calls Try.prog 64 #[.slice a zs.length cap, .func (.func 78) #[] #[.pointer (some ⟨w1.heap.size, 0, none⟩)]] (w1.alloc (.cells #[.int .i64 (greatK zs zs.length)] 2))
      fun e w' => ∃ g, e = .returned (.slice (some ⟨g, 0, none⟩) zs.length zs.length) ∧ OwnK 2 w.heap.size g zs.length zs.length (powL zs) w' ∧ Below w.heap.size w w') := by
    intro w1 hb1
    have hn := SumAt.new w1 (greatK zs zs.length)
    have hgb := greatK_bd zs zs.length
    have hsz : w.heap.size ≤ (w1.alloc (.cells #[.int .i64 (greatK zs zs.length)] 2)).heap.size := by have := hb1.size; simp; omega
    refine (madeof_any 78 #[.pointer (some ⟨w1.heap.size, 0, none⟩)] (enters_of Try.func78 (by kernel_rfl) rfl) a zs.length cap zs _ ((ha.below hb1).below hn.2) hlen (fun x => expZ (addZ x (-(greatK zs zs.length)))) fun x wr hb => (soft1_any x _ hgb.1 hgb.2 w1.heap.size wr ((hb.block _ (lt_of_block hn.1)).trans hn.1)).mono fun e w' ⟨h1, h2⟩ => ⟨h1, by rw [h2]; exact Below.refl _ _⟩).mono ?_
    rintro e w' ⟨g, rfl, hO, hb⟩
    exact ⟨g, rfl, hO.low hsz, hb1.trans ((hn.2.mono hb1.size).trans (hb.mono hsz))⟩
  have HE2 : Hid (∀ w2 g, OwnK 2 w.heap.size g zs.length zs.length (powL zs) w2 → Calls Try.prog 43 #[.slice (some ⟨g, 0, none⟩) zs.length zs.length, .func (.func 80) #[] #[.pointer (some ⟨w2.heap.size, 0, none⟩)]] (w2.alloc (.cells #[.int .i64 0] 2))
      fun e w' => e = .returned (.tuple #[]) ∧ SumAt w2 w2.heap.size (sumK (powL zs) zs.length) w') := by
    intro w2 g hO
    refine each_any 80 _ _ zs.length zs.length (powL zs) _ hlen (fun k W => SumAt w2 w2.heap.size (sumK (powL zs) k) W) (enters_of Try.func80 (by kernel_rfl) rfl) (fun k wr h => hO.reads.below h.2) (SumAt.new w2 0) ?_
    intro k wr hk hi
    exact (soft2_any k _ _ w2.heap.size wr hi.1).mono fun e w' ⟨h1, h2, h3⟩ => ⟨h1, h2, hi.2.trans (h3.to one_le hi.2.size)⟩
  have HE3 : Hid (∀ w2 w3 g, OwnK 2 w.heap.size g zs.length zs.length (powL zs) w2 → Below w.heap.size w w2 → SumAt w2 w2.heap.size (sumK (powL zs) zs.length) w3 → Calls Try.prog 64 #[.slice (some ⟨g, 0, none⟩) zs.length zs.length, .func (.func 81) #[] #[.pointer (some ⟨w2.heap.size, 0, none⟩)]] w3
      fun e w' => Made w zs.length (softL zs) e w') := by
    intro w2 w3 g hO hb2 hs
    have h23 : Below w.heap.size w w3 := hb2.trans (hs.2.mono hb2.size)
    refine (madeof_any 81 #[.pointer (some ⟨w2.heap.size, 0, none⟩)] (enters_of Try.func81 (by kernel_rfl) rfl) _ zs.length zs.length (powL zs) w3 (hO.reads.below hs.2) hlen (divZ · (sumK (powL zs) zs.length)) fun x wr hb => (soft3_any x _ w2.heap.size wr ((hb.block _ (lt_of_block hs.1)).trans hs.1)).mono fun e w' ⟨h1, h2⟩ => ⟨h1, by rw [h2]; exact Below.refl _ _⟩).mono ?_
    rintro e w' ⟨g', rfl, hO', hb⟩
    exact ⟨g', _, rfl, hO'.low h23.size, h23.trans (hb.mono h23.size)⟩
  clear ha
  go_enter Try.func50, Try.ntmps50
  go_wp2_with fail
  refine hG.mono ?_
  rintro e w1 ⟨rfl, hb1⟩
  have hE := HE1.out w1 hb1
  clear HE1 hG hb1
  generalize greatK zs zs.length = gr at *
  go_wp2_with fail
  refine hE.mono ?_
  rintro e w2 ⟨g, rfl, hO, hb2⟩
  have hE2 := HE2.out w2 g hO
  have HE4 := hid fun w3 h => HE3.out w2 w3 g hO hb2 h
  clear HE2 HE3 hE hO hb2
  go_wp2_with fail
  refine hE2.mono ?_
  rintro e w3 ⟨rfl, hs⟩
  have hE3 := HE4.out w3 hs
  clear HE4 hE2 hs
  go_wp2_with fail
  refine hE3.mono ?_
  rintro e w' ⟨g, cap', rfl, hO, hb⟩
  have HO := hid hO
  have HB := hid hb
  clear hO hb hE3
  go_wp2
  go_ret
  exact ⟨_, _, rfl, HO.out, HB.out⟩
theorem cell_al {w : World} {p : Addr} {v : Value} (h : w.cell? p = some v) (o : Obj) : (w.alloc o).cell? p = some v :=
  (((Below.refl w.heap.size w).alloc (Nat.le_refl _) o).cell (World.block_lt_of_cell? _ _ h)).trans h
end Go.Proofs.Ytpllffekebkacaa
