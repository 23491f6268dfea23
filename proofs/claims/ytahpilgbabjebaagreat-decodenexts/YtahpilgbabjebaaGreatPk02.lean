/-
  Mades: A row of numbers that the call owns (OwnK); contracts: madeOf (with whatever function it is handed), Scale, Relu.
  Scales: Contracts: Scale, Relu, and what stands on madeOf alone.
  Pairs: Contracts: madeOfBoth (with whatever function it is handed), Add.
  Softs: Contracts: Norm and Soft.
  Tables: Tables (Tbl); contracts: each and madeOf over a table, Mul: of each row its product with a vector.
-/
import Derived.Test.YtahpilgbabjebaaGreatPk01
import Derived.Deep.AppendLies
import Derived.Deep.RegionLaw
namespace Go.Proofs.YtahpilgbabjebaaGreat
open Go.RowKit
set_option linter.unusedVariables false
set_option maxRecDepth 1000000

theorem made1_any (fn : Nat) (caps : Array Value) (hE : ∀ args w, (callFunc fn args).run Tryz.prog w = .ok (.enter fn args) w) (k : Nat) (x y : Int) (Bo Bm base g m : Nat) (us : List Int) (wr : World) (hm : m ≤ 1000)
    (ho : wr.heap[Bo]? = some (.cells #[.func (.func fn) #[] caps] 118 (0, 0))) (hq : wr.heap[Bm]? = some (.cells #[.slice (some ⟨g, 0, none⟩) m m] 70 (0, 0)))
    (hO : OwnK 2 base g m m us wr) (hk : k < m) (hgo : Bo ≠ g) (hgm : Bm ≠ g)
    (hC : Calls Tryz.prog fn (#[.int .i64 x] ++ caps) wr.drew fun e w' => e = .returned (.int .i64 y) ∧ Below wr.heap.size wr w') :
    Calls Tryz.prog 149 #[.int .i64 k, .int .i64 x, .pointer (some ⟨Bo, 0, none⟩), .pointer (some ⟨Bm, 0, none⟩)] wr fun e w' => e = .returned (.tuple #[]) ∧ OwnK 2 base g m m (us.set k y) w' ∧ But [g] wr w' := by
  have cd := cell_of_one ho
  have cq := cell_of_one hq
  have HO := hid hO
  have HK : Hid (∀ W, But [g] wr W → W.cell? ⟨Bo, 0, none⟩ = some (.func (.func fn) #[] caps) ∧ W.cell? ⟨Bm, 0, none⟩ = some (.slice (some ⟨g, 0, none⟩) m m)) :=
    fun W h => ⟨h.cell cd (by simpa using hgo), h.cell cq (by simpa using hgm)⟩
  clear ho hq hO hgo hgm
  go_enter Tryz.func149, Tryz.ntmps149
  go_wp2_with fail
  go_region_held3 (fun W : World => W.cell? ⟨Bo, 0, none⟩ = some (.func (.func fn) #[] caps) ∧ W.cell? ⟨Bm, 0, none⟩ = some (.slice (some ⟨g, 0, none⟩) m m)) (first | exact ⟨cd, cq⟩ | assumption | exact HK.out _ (But.of hB) | exact HK.out _ ((But.of hB).set (p := ⟨g, k, none⟩) (List.mem_singleton.2 rfl) _)) (first | (refine hC.mono ?_; rintro e w2 ⟨rfl, hB⟩; have HO2 := hid (HO.out.stays hB); have ck := HO2.out.cell hk; have fk := HO2.out.frozen k))
  have HS : Hid (OwnK 2 base g m m (us.set k y) (w2.setCell ⟨g, k, none⟩ (.int .i64 y))) := HO2.out.set k y
  have HB : Hid (But [g] wr (w2.setCell ⟨g, k, none⟩ (.int .i64 y))) := (But.of hB).set (p := ⟨g, k, none⟩) (List.mem_singleton.2 rfl) _
  clear HK cd cq HO HO2 ck fk hB hC
  go_wp2
  go_end0
  exact ⟨rfl, HS.out, HB.out⟩

/-- What is made behind k rounds. -/
def madeK (f : Int → Int) (zs : List Int) (len k : Nat) : List Int := (zs.take k).map f ++ List.replicate (len - k) 0
theorem madeK_set {f : Int → Int} {zs : List Int} {k : Nat} (h : k < zs.length) : (madeK f zs zs.length k).set k (f (zs[k]?.getD 0)) = madeK f zs zs.length (k + 1) := by
  unfold madeK
  have hl : ((zs.take k).map f).length = k := by simp; omega
  rw [List.set_append_right _ _ (by omega), hl, Nat.sub_self, take_snoc h, List.map_append, List.append_assoc]
  congr 1
  rw [show zs.length - k = zs.length - (k + 1) + 1 by omega, List.replicate_succ]
  rfl
theorem madeK_all (f : Int → Int) (zs : List Int) : madeK f zs zs.length zs.length = zs.map f := by unfold madeK; simp

/-- What stands in memory between the rounds of madeOf: the function, the row, and the variable that holds it. -/
structure MadeAt (w : World) (fn : Nat) (caps : Array Value) (T : TypeId) (B len : Nat) (us : List Int) (W : World) : Prop where
  old : Below w.heap.size w W
  fun_ : W.heap[B]? = some (.cells #[.func (.func fn) #[] caps] T (0, 0))
  var : W.heap[B + 2]? = some (.cells #[.slice (some ⟨B + 1, 0, none⟩) len len] 70 (0, 0))
  own : OwnK 2 w.heap.size (B + 1) len len us W

theorem MadeAt.new (w : World) (fn : Nat) (caps : Array Value) (T : TypeId) (len : Nat) (hlen : len ≤ 1000) :
    MadeAt w fn caps T w.heap.size len (List.replicate len 0) (((w.alloc (.cells #[.func (.func fn) #[] caps] T)).alloc (.cells (madeCells #[.int .i64 0] len) 2)).alloc (.cells #[.slice (some ⟨w.heap.size + 1, 0, none⟩) len len] 70)) := by
  have h1 := own_made 2 (w.alloc (.cells #[.func (.func fn) #[] caps] T)) len (by omega)
  have e1 : (w.alloc (.cells #[.func (.func fn) #[] caps] T)).heap.size = w.heap.size + 1 := by simp
  rw [e1] at h1
  refine ⟨?_, ?_, ?_, ?_⟩
  · exact (((Below.refl _ _).alloc (Nat.le_refl _) _).alloc (by simp) _).alloc (by simp; omega) _
  · rw [Below.heap_alloc _ _ _ (by simp; omega), Below.heap_alloc _ _ _ (by simp)]
    exact heap_alloc_new w _
  · have := heap_alloc_new ((w.alloc (.cells #[.func (.func fn) #[] caps] T)).alloc (.cells (madeCells #[.int .i64 0] len) 2)) (.cells #[.slice (some ⟨w.heap.size + 1, 0, none⟩) len len] 70)
    simpa using this
  · exact (h1.low (by omega)).stays ((Below.refl _ _).alloc (Nat.le_refl _) _)

theorem madeEach_any (fn : Nat) (caps : Array Value) (hE : ∀ args w, (callFunc fn args).run Tryz.prog w = .ok (.enter fn args) w) (a : Option Addr) (len cap : Nat) (zs : List Int) (w W : World) (ha : Reads .i64 w a len cap zs) (hlen : len ≤ 1000) (f : Int → Int)
    (hC : ∀ x wr, Below w.heap.size w wr → Calls Tryz.prog fn (#[.int .i64 x] ++ caps) wr fun e w' => e = .returned (.int .i64 (f x)) ∧ Below wr.heap.size wr w')
    (h0 : MadeAt w fn caps 118 w.heap.size len (List.replicate len 0) W) :
    Calls Tryz.prog 114 #[.slice a len cap, .func (.func 149) #[] #[.pointer (some ⟨w.heap.size, 0, none⟩), .pointer (some ⟨w.heap.size + 2, 0, none⟩)]] W
      fun e w' => e = .returned (.tuple #[]) ∧ MadeAt w fn caps 118 w.heap.size len (zs.map f) w' := by
  have hz := ha.size
  subst hz
  refine (each_any 149 _ a zs.length cap zs W hlen (fun k W => MadeAt w fn caps 118 w.heap.size zs.length (madeK f zs zs.length k) W) (enters_of Tryz.func149 (by kernel_rfl) rfl) ?_ ?_ ?_).mono ?_
  · intro k wr hk
    exact ha.below hk.old
  · unfold madeK
    simpa using h0
  · intro k wr hk hI
    have hdr : Below wr.heap.size wr wr.drew := (Below.refl _ _).drew
    refine (made1_any fn caps hE k _ (f (zs[k]?.getD 0)) w.heap.size (w.heap.size + 2) w.heap.size (w.heap.size + 1) zs.length _ wr hlen hI.fun_ hI.var hI.own hk (by omega) (by omega) ?_).mono ?_
    · exact (hC _ _ (hI.old.trans (hdr.mono hI.old.size))).mono fun e w' ⟨h1, h2⟩ => ⟨h1, hdr.trans (h2.mono (Nat.le_refl _))⟩
    · rintro e w' ⟨h1, h2, h3⟩
      refine ⟨h1, ?_, h3.one hI.fun_ (by simp), h3.one hI.var (by simp), ?_⟩
      · exact hI.old.trans (h3.to (fun s hs => by rw [List.mem_singleton.1 hs]; omega) hI.old.size)
      · rw [← madeK_set hk]; exact h2
  · rintro e w' ⟨h1, h2⟩
    rw [madeK_all] at h2
    exact ⟨h1, h2⟩

theorem madeof_any (fn : Nat) (caps : Array Value) (hE : ∀ args w, (callFunc fn args).run Tryz.prog w = .ok (.enter fn args) w) (a : Option Addr) (len cap : Nat) (zs : List Int) (w : World) (ha : Reads .i64 w a len cap zs) (hlen : len ≤ 1000) (f : Int → Int)
    (hC : ∀ x wr, Below w.heap.size w wr → Calls Tryz.prog fn (#[.int .i64 x] ++ caps) wr fun e w' => e = .returned (.int .i64 (f x)) ∧ Below wr.heap.size wr w') :
    Calls Tryz.prog 125 #[.slice a len cap, .func (.func fn) #[] caps] w fun e w' => ∃ g, e = .returned (.slice (some ⟨g, 0, none⟩) len len) ∧ OwnK 2 w.heap.size g len len (zs.map f) w' ∧ Below w.heap.size w w' := by
  have HM := hid fun W => madeEach_any fn caps hE a len cap zs w W ha hlen f hC
  have hmk := make_ints (w.alloc (.cells #[.func (.func fn) #[] caps] 118)) len (by omega)
  clear ha hC
  go_enter Tryz.func125, Tryz.ntmps125
  go_wp2_with fail
  refine (count_any _ _ _ _ hlen).mono ?_
  rintro e w' ⟨rfl, rfl⟩
  go_wp2_with fail
  refine (HM.out _ (MadeAt.new _ _ _ _ _ hlen)).mono ?_
  rintro e w' ⟨rfl, h⟩
  have cv := cell_of_one h.var
  have HO := hid h.own
  have HB := hid h.old
  clear h HM hmk
  go_wp2
  go_ret
  exact ⟨_, rfl, HO.out, HB.out⟩
end Go.Proofs.YtahpilgbabjebaaGreat
namespace Go.Proofs.YtahpilgbabjebaaGreat
open Go.RowKit
set_option linter.unusedVariables false
set_option maxRecDepth 1000000

theorem relu1_any (n : Int) (w : World) :
    Calls Tryz.prog 158 #[.int .i64 n] w fun e w' => e = .returned (.int .i64 (max (wi n) 0)) ∧ w' = w := by
  rcases Int.lt_or_le (wi n) 0 with h | h
  · have HE : Hid (0 = max (wi n) 0) := by unfold Hid; omega
    go_enter Tryz.func158, Tryz.ntmps158
    go_wp2_with fail
    refine (within_any _ _).mono ?_
    rintro e w' ⟨rfl, rfl⟩
    go_wp2
    go_ret
    exact ⟨ret_int HE.out, rfl⟩
  · have HE : Hid (wi n = max (wi n) 0) := by unfold Hid; omega
    go_enter Tryz.func158, Tryz.ntmps158
    go_wp2_with fail
    refine (within_any _ _).mono ?_
    rintro e w' ⟨rfl, rfl⟩
    go_wp2
    go_ret
    exact ⟨ret_int HE.out, rfl⟩
theorem norm1_any (n b : Int) (B : Nat) (w : World) (hB : w.heap[B]? = some (.cells #[.int .i64 b] 2 (0, 0))) :
    Calls Tryz.prog 126 #[.int .i64 n, .pointer (some ⟨B, 0, none⟩)] w fun e w' => e = .returned (.int .i64 (divZ n b)) ∧ w' = w := by
  have cs := cell_of_one hB
  clear hB
  go_enter Tryz.func126, Tryz.ntmps126
  go_wp2_with fail
  refine (div_any _ _ _).mono ?_
  rintro e w' ⟨rfl, rfl⟩
  go_wp2
  go_ret
  exact ⟨rfl, rfl⟩
theorem soft3_any (n b : Int) (B : Nat) (w : World) (hB : w.heap[B]? = some (.cells #[.int .i64 b] 2 (0, 0))) :
    Calls Tryz.prog 142 #[.int .i64 n, .pointer (some ⟨B, 0, none⟩)] w fun e w' => e = .returned (.int .i64 (divZ n b)) ∧ w' = w := by
  have cs := cell_of_one hB
  clear hB
  go_enter Tryz.func142, Tryz.ntmps142
  go_wp2_with fail
  refine (div_any _ _ _).mono ?_
  rintro e w' ⟨rfl, rfl⟩
  go_wp2
  go_ret
  exact ⟨rfl, rfl⟩
theorem soft1_any (n b : Int) (b0 : -2147483648 ≤ b) (b1 : b ≤ 2147483647) (B : Nat) (w : World) (hB : w.heap[B]? = some (.cells #[.int .i64 b] 2 (0, 0))) :
    Calls Tryz.prog 139 #[.int .i64 n, .pointer (some ⟨B, 0, none⟩)] w fun e w' => e = .returned (.int .i64 (expZ (addZ n (-b)))) ∧ w' = w := by
  have cs := cell_of_one hB
  clear hB
  go_enter Tryz.func139, Tryz.ntmps139
  go_wp2_with fail
  refine (add_any _ _ _).mono ?_
  rintro e w' ⟨rfl, rfl⟩
  go_wp2_with fail
  refine (exp_any _ _).mono ?_
  rintro e w' ⟨rfl, rfl⟩
  go_wp2
  go_ret
  exact ⟨rfl, rfl⟩
theorem soft2_any (k : Nat) (p s : Int) (B : Nat) (w : World) (hB : w.heap[B]? = some (.cells #[.int .i64 s] 2 (0, 0))) :
    Calls Tryz.prog 141 #[.int .i64 k, .int .i64 p, .pointer (some ⟨B, 0, none⟩)] w fun e w' => e = .returned (.tuple #[]) ∧ w'.heap[B]? = some (.cells #[.int .i64 (addZ s p)] 2 (0, 0)) ∧ But [B] w w' := by
  have cs := cell_of_one hB
  have fs := free_of_one hB
  have HO := hid (one_setCell (u := .int .i64 (addZ s p)) hB)
  clear hB
  go_enter Tryz.func141, Tryz.ntmps141
  go_wp2_with fail
  refine (add_any _ _ _).mono ?_
  rintro e w' ⟨rfl, rfl⟩
  go_wp2
  go_end0
  exact ⟨rfl, HO.out, ((But.refl _ _).set (p := ⟨B, 0, none⟩) (List.mem_singleton.2 rfl) _)⟩

/-- The greatest of the first k, within the bounds; 0 of none. -/
def greatK (zs : List Int) : Nat → Int
  | 0 => 0
  | k + 1 => if k = 0 ∨ greatK zs k < wi (zs[k]?.getD 0) then wi (zs[k]?.getD 0) else greatK zs k
theorem greatK_bd (zs : List Int) (k : Nat) : -2147483648 ≤ greatK zs k ∧ greatK zs k ≤ 2147483647 := by
  induction k with
  | zero => simp [greatK]
  | succ k ih => unfold greatK; split; exact ⟨wi_0 _, wi_1 _⟩; exact ih
theorem great1_any (k : Nat) (n s : Int) (hk : k ≤ 1000) (B : Nat) (w : World) (hB : w.heap[B]? = some (.cells #[.int .i64 s] 2 (0, 0))) :
    Calls Tryz.prog 156 #[.int .i64 k, .int .i64 n, .pointer (some ⟨B, 0, none⟩)] w fun e w' => e = .returned (.tuple #[]) ∧ w'.heap[B]? = some (.cells #[.int .i64 (if k = 0 ∨ s < wi n then wi n else s)] 2 (0, 0)) ∧ But [B] w w' := by
  have cs := cell_of_one hB
  have fs := free_of_one hB
  by_cases h0 : k = 0
  · rw [if_pos (.inl h0)]
    have HO := hid (one_setCell (u := .int .i64 (wi n)) hB)
    clear hB
    subst h0
    go_enter Tryz.func156, Tryz.ntmps156
    go_wp2_with fail
    refine (within_any _ _).mono ?_
    rintro e w' ⟨rfl, rfl⟩
    go_wp2
    go_end0
    exact ⟨rfl, HO.out, ((But.refl _ _).set (p := ⟨B, 0, none⟩) (List.mem_singleton.2 rfl) _)⟩
  · by_cases h1 : s < wi n
    · rw [if_pos (.inr h1)]
      have HO := hid (one_setCell (u := .int .i64 (wi n)) hB)
      clear hB
      go_enter Tryz.func156, Tryz.ntmps156
      go_wp2_with fail
      refine (within_any _ _).mono ?_
      rintro e w' ⟨rfl, rfl⟩
      go_wp2
      go_end0
      exact ⟨rfl, HO.out, ((But.refl _ _).set (p := ⟨B, 0, none⟩) (List.mem_singleton.2 rfl) _)⟩
    · rw [if_neg (by omega)]
      have HO := hid hB
      have h2 : ¬ (k : Int) = 0 := by omega
      have h3 : wi n ≤ s := by omega
      have h4 : ((k : Int) == 0) = false := by simpa using h0
      clear hB h0 h1
      go_enter Tryz.func156, Tryz.ntmps156
      go_wp2_with fail
      refine (within_any _ _).mono ?_
      rintro e w' ⟨rfl, rfl⟩
      go_wp2
      go_end0
      exact ⟨rfl, HO.out, But.refl _ _⟩
theorem greatest_any (a : Option Addr) (len cap : Nat) (zs : List Int) (w : World) (ha : Reads .i64 w a len cap zs) (hlen : len ≤ 1000) :
    Calls Tryz.prog 138 #[.slice a len cap] w fun e w' => e = .returned (.int .i64 (greatK zs len)) ∧ Below w.heap.size w w' := by
  have hn := SumAt.new w 0
  have HE : Hid (Calls Tryz.prog 114 #[.slice a len cap, .func (.func 156) #[] #[.pointer (some ⟨w.heap.size, 0, none⟩)]] (w.alloc (.cells #[.int .i64 0] 2)) fun e w' => e = .returned (.tuple #[]) ∧ SumAt w w.heap.size (greatK zs len) w') := by
    refine each_any 156 _ a len cap zs _ hlen (fun k W => SumAt w w.heap.size (greatK zs k) W) (enters_of Tryz.func156 (by kernel_rfl) rfl) (fun k wr h => ha.below h.2) hn ?_
    intro k wr hk hi
    exact (great1_any k _ _ (by omega) w.heap.size wr hi.1).mono fun e w' ⟨h1, h2, h3⟩ => ⟨h1, h2, hi.2.trans (h3.to one_le hi.2.size)⟩
  clear hn ha
  go_enter Tryz.func138, Tryz.ntmps138
  go_wp2_with fail
  refine HE.out.mono ?_
  rintro e w' ⟨rfl, hS⟩
  have cs := cell_of_one hS.1
  have HS := hid hS.2
  clear HE hS
  go_wp2
  go_ret
  exact ⟨rfl, HS.out⟩

theorem relu_any (a : Option Addr) (len cap : Nat) (zs : List Int) (w : World) (ha : Reads .i64 w a len cap zs) (hlen : len ≤ 1000) :
    Calls Tryz.prog 145 #[.slice a len cap] w fun e w' => Made w len (zs.map (fun n => max (wi n) 0)) e w' := by
  have HE := hid (madeof_any 158 #[] (enters_of Tryz.func158 (by kernel_rfl) rfl) a len cap zs _ ha hlen (fun n => max (wi n) 0) fun x wr hb => (relu1_any x wr).mono fun e w' ⟨h1, h2⟩ => ⟨h1, by rw [h2]; exact Below.refl _ _⟩)
  clear ha
  go_enter Tryz.func145, Tryz.ntmps145
  go_wp2_with fail
  refine HE.out.mono ?_
  rintro e w' ⟨g, rfl, hO, hb⟩
  have HO := hid hO
  have HB := hid hb
  clear hO hb HE
  go_wp2
  go_ret
  exact ⟨_, _, rfl, HO.out, HB.out⟩
end Go.Proofs.YtahpilgbabjebaaGreat
namespace Go.Proofs.YtahpilgbabjebaaGreat
open Go.RowKit
set_option linter.unusedVariables false
set_option maxRecDepth 1000000

theorem pair1_end {Bm g base n cap : Nat} {us : List Int} {z : Int} {wr w3 : World} (hgm : Bm ≠ g) (hO3 : w3.ownsRow base 2 1 (.slice (some ⟨g, 0, none⟩) (n + 1) cap) (n + 1) (us.map (Value.int .i64) ++ [.int .i64 z]))
    (hq : w3.heap[Bm]? = some (.cells #[.slice (some ⟨g, 0, none⟩) n cap] 70 (0, 0))) (hG : But [g] wr w3) :
    OwnK 2 base g (n + 1) cap (us ++ [z]) (w3.setCell ⟨Bm, 0, none⟩ (.slice (some ⟨g, 0, none⟩) (n + 1) cap)) ∧
    (w3.setCell ⟨Bm, 0, none⟩ (.slice (some ⟨g, 0, none⟩) (n + 1) cap)).heap[Bm]? = some (.cells #[.slice (some ⟨g, 0, none⟩) (n + 1) cap] 70 (0, 0)) ∧
    But [Bm, g] wr (w3.setCell ⟨Bm, 0, none⟩ (.slice (some ⟨g, 0, none⟩) (n + 1) cap)) := by
  refine ⟨?_, one_setCell hq, (hG.mono (by simp)).set (p := ⟨Bm, 0, none⟩) (by simp) _⟩
  unfold OwnK
  rw [List.map_append]
  exact ownsRow_setCell_other hO3 (by simp [Value.ownBlock]; exact fun e => hgm e.symm) _

set_option maxHeartbeats 1000000 in
theorem pair1_any (fn : Nat) (caps : Array Value) (hE : ∀ args w, (callFunc fn args).run Tryz.prog w = .ok (.enter fn args) w) (x y z : Int) (Bm Bo base g n cap : Nat) (us : List Int) (wr : World) (hcap : cap ≤ 1000) (hn : n < cap)
    (ho : wr.heap[Bo]? = some (.cells #[.func (.func fn) #[] caps] 96 (0, 0))) (hq : wr.heap[Bm]? = some (.cells #[.slice (some ⟨g, 0, none⟩) n cap] 70 (0, 0)))
    (hO : OwnK 2 base g n cap us wr) (hgo : Bo ≠ g) (hgm : Bm ≠ g) (hom : Bo ≠ Bm)
    (hC : Calls Tryz.prog fn (#[.int .i64 x, .int .i64 y] ++ caps) wr.drew fun e w' => e = .returned (.int .i64 z) ∧ Below wr.heap.size wr w') :
    Calls Tryz.prog 104 #[.int .i64 x, .int .i64 y, .pointer (some ⟨Bm, 0, none⟩), .pointer (some ⟨Bo, 0, none⟩)] wr fun e w' => e = .returned (.tuple #[]) ∧ OwnK 2 base g (n + 1) cap (us ++ [z]) w' ∧
      w'.heap[Bm]? = some (.cells #[.slice (some ⟨g, 0, none⟩) (n + 1) cap] 70 (0, 0)) ∧ But [Bm, g] wr w' := by
  obtain ⟨i0, hi, hz0, hz1, hz2⟩ := info_parts Tryz.info2
  have cd := cell_of_one ho
  have cq := cell_of_one hq
  have HO := hid hO
  have HK : Hid (∀ W, But [g] wr W → W.cell? ⟨Bo, 0, none⟩ = some (.func (.func fn) #[] caps) ∧ W.cell? ⟨Bm, 0, none⟩ = some (.slice (some ⟨g, 0, none⟩) n cap)) :=
    fun W h => ⟨h.cell cd (by simpa using hgo), h.cell cq (by simpa using hgm)⟩
  have HF : Hid (∀ W, But [g] wr W → W.heap[Bm]? = some (.cells #[.slice (some ⟨g, 0, none⟩) n cap] 70 (0, 0))) := fun W h => h.one hq (by simpa using hgm)
  have HGM : Hid (Bm ≠ g) := hgm
  clear ho hq hO hgo hgm
  go_enter Tryz.func104, Tryz.ntmps104
  go_wp2_with fail
  go_region_law ((first | (refine step_call2 (by rfl) 10 (by rfl) (.tmp 7) (.tmp 8) (.tmp 9) 2 2 (by rfl) fn caps (by rfl) hE (.int .i64 x) (.int .i64 y) (by rfl) (by rfl) (.int .i64 z) (fun w' => Below wr.heap.size wr w') hC ?_; intro w2 hB; have cm2 := (HK.out _ (But.of hB)).2; have cm3 := (HK.out _ ((But.of hB).alloc (.cells #[.int .i64 z] 2))).2) | (refine step_append_fits (by rfl) 12 (by rfl) (.tmp 6) (.tmp 11) 70 (by rfl) base 2 i0 1 Tryz.underlying70 hi hz1 g n cap (us.map (Value.int .i64)) (by rfl) ((HO.out.stays hB).alloc _) ⟨w2.heap.size, 0, none⟩ 1 1 [.int .i64 z] (by rfl) rfl (news_one _ _ _ _) (one_cell _ _) (by omega) ?_; intro w3 hO3 hg; have HG := hid (but_grown ((But.of hB).alloc (.cells #[.int .i64 z] 2)) hg (List.mem_singleton.2 rfl)); have cm := (HK.out _ HG.out).2; have fm := free_of_one (HF.out _ HG.out))))
  all_goals
    have HE1 := hid (pair1_end HGM.out hO3 (HF.out _ HG.out) HG.out)
    clear hO3 hg HG cm fm cm2 cm3 hB HF HK cd cq HO hC hi hz0 hz1 hz2
    go_wp2
    go_end0
    exact ⟨rfl, HE1.out⟩

/-- What stands in memory between the rounds of madeOfBoth: the function, the row, and the variable that holds it. -/
structure PairAt (w : World) (fn : Nat) (caps : Array Value) (B cap n : Nat) (us : List Int) (W : World) : Prop where
  old : Below w.heap.size w W
  fun_ : W.heap[B]? = some (.cells #[.func (.func fn) #[] caps] 96 (0, 0))
  var : W.heap[B + 2]? = some (.cells #[.slice (some ⟨B + 1, 0, none⟩) n cap] 70 (0, 0))
  own : OwnK 2 w.heap.size (B + 1) n cap us W
theorem PairAt.below {w : World} {fn : Nat} {caps : Array Value} {B cap n : Nat} {us : List Int} {W W' : World} (h : PairAt w fn caps B cap n us W) (hb : Below W.heap.size W W') : PairAt w fn caps B cap n us W' :=
  ⟨h.old.trans (hb.mono h.old.size), (hb.block _ (lt_of_block h.fun_)).trans h.fun_, (hb.block _ (lt_of_block h.var)).trans h.var, h.own.stays hb⟩
theorem PairAt.new (w : World) (fn : Nat) (caps : Array Value) (m : Nat) (hm : m ≤ 1000) :
    PairAt w fn caps w.heap.size m 0 [] (((w.alloc (.cells #[.func (.func fn) #[] caps] 96)).alloc (.cells (madeCells #[.int .i64 0] m) 2)).alloc (.cells #[.slice (some ⟨w.heap.size + 1, 0, none⟩) 0 m] 70)) := by
  have h1 := own_room 2 (w.alloc (.cells #[.func (.func fn) #[] caps] 96)) m (by omega)
  have e1 : (w.alloc (.cells #[.func (.func fn) #[] caps] 96)).heap.size = w.heap.size + 1 := by simp
  rw [e1] at h1
  refine ⟨?_, ?_, ?_, ?_⟩
  · exact (((Below.refl _ _).alloc (Nat.le_refl _) _).alloc (by simp) _).alloc (by simp; omega) _
  · rw [Below.heap_alloc _ _ _ (by simp; omega), Below.heap_alloc _ _ _ (by simp)]
    exact heap_alloc_new w _
  · have := heap_alloc_new ((w.alloc (.cells #[.func (.func fn) #[] caps] 96)).alloc (.cells (madeCells #[.int .i64 0] m) 2)) (.cells #[.slice (some ⟨w.heap.size + 1, 0, none⟩) 0 m] 70)
    simpa using this
  · exact (h1.low (by omega)).stays ((Below.refl _ _).alloc (Nat.le_refl _) _)
/-- What is made of the first k places of both. -/
def pairK (f : Int → Int → Int) (xs ys : List Int) : Nat → List Int
  | 0 => []
  | k + 1 => pairK f xs ys k ++ [f (xs[k]?.getD 0) (ys[k]?.getD 0)]
theorem pairK_len (f : Int → Int → Int) (xs ys : List Int) (k : Nat) : (pairK f xs ys k).length = k := by
  induction k with
  | zero => rfl
  | succ k ih => simp [pairK, ih]

theorem pairEach_any (fn : Nat) (caps : Array Value) (hE : ∀ args w, (callFunc fn args).run Tryz.prog w = .ok (.enter fn args) w) (a b : Option Addr) (la ca lb cb : Nat) (xs ys : List Int) (w W : World) (ha : Reads .i64 w a la ca xs) (hb : Reads .i64 w b lb cb ys) (hla : la ≤ 1000) (hlb : lb ≤ 1000) (f : Int → Int → Int)
    (hC : ∀ x y wr, Below w.heap.size w wr → Calls Tryz.prog fn (#[.int .i64 x, .int .i64 y] ++ caps) wr fun e w' => e = .returned (.int .i64 (f x y)) ∧ Below wr.heap.size wr w')
    (h0 : PairAt w fn caps w.heap.size (min la lb) 0 [] W) :
    Calls Tryz.prog 103 #[.slice a la ca, .slice b lb cb, .func (.func 104) #[] #[.pointer (some ⟨w.heap.size + 2, 0, none⟩), .pointer (some ⟨w.heap.size, 0, none⟩)]] W
      fun e w' => e = .returned (.tuple #[]) ∧ PairAt w fn caps w.heap.size (min la lb) (min la lb) (pairK f xs ys (min la lb)) w' := by
  have hS : ∀ s ∈ [w.heap.size + 2, w.heap.size + 1], w.heap.size ≤ s := by simp
  refine (both_any 104 _ (enters_of Tryz.func104 (by kernel_rfl) rfl) [w.heap.size + 2, w.heap.size + 1] a b la ca lb cb xs ys W (ha.below h0.old) (hb.below h0.old) hla hlb ?_ (ha.past hS) (hb.past hS)
    (fun k W => PairAt w fn caps w.heap.size (min la lb) k (pairK f xs ys k) W) h0 (fun k W W' h hb => h.below hb) ?_).mono fun e w' h => ⟨h.1, h.2.1⟩
  · have h1 := lt_of_block h0.var
    intro s hs
    simp at hs
    omega
  · intro k wr hk hk' hI
    have hdr : Below wr.heap.size wr wr.drew := (Below.refl _ _).drew
    refine (pair1_any fn caps hE _ _ (f (xs[k]?.getD 0) (ys[k]?.getD 0)) (w.heap.size + 2) w.heap.size w.heap.size (w.heap.size + 1) k (min la lb) _ wr (by omega) (by omega) hI.fun_ hI.var hI.own (by omega) (by omega) (by omega) ?_).mono ?_
    · exact (hC _ _ _ (hI.old.trans (hdr.mono hI.old.size))).mono fun e w' ⟨h1, h2⟩ => ⟨h1, hdr.trans (h2.mono (Nat.le_refl _))⟩
    · rintro e w' ⟨h1, h2, h3, h4⟩
      exact ⟨h1, ⟨hI.old.trans (h4.to hS hI.old.size), h4.one hI.fun_ (by simp), h3, h2⟩, h4⟩

theorem madeofboth_any (fn : Nat) (caps : Array Value) (hE : ∀ args w, (callFunc fn args).run Tryz.prog w = .ok (.enter fn args) w) (a b : Option Addr) (la ca lb cb : Nat) (xs ys : List Int) (w : World) (ha : Reads .i64 w a la ca xs) (hb : Reads .i64 w b lb cb ys) (hla : la ≤ 1000) (hlb : lb ≤ 1000) (f : Int → Int → Int)
    (hC : ∀ x y wr, Below w.heap.size w wr → Calls Tryz.prog fn (#[.int .i64 x, .int .i64 y] ++ caps) wr fun e w' => e = .returned (.int .i64 (f x y)) ∧ Below wr.heap.size wr w') :
    Calls Tryz.prog 63 #[.slice a la ca, .slice b lb cb, .func (.func fn) #[] caps] w fun e w' => Made w (min la lb) (pairK f xs ys (min la lb)) e w' := by
  obtain ⟨m, hm⟩ : ∃ m, min la lb = m := ⟨_, rfl⟩
  have hm1 : m ≤ 1000 := by omega
  have HM := hid fun W => pairEach_any fn caps hE a b la ca lb cb xs ys w W ha hb hla hlb f hC
  rw [hm] at HM ⊢
  have hmk := make_room (w.alloc (.cells #[.func (.func fn) #[] caps] 96)) m (by omega)
  clear ha hb hC
  rcases Nat.lt_or_ge lb la with hl | hl
  · obtain rfl : lb = m := by omega
    clear hm
    go_enter Tryz.func63, Tryz.ntmps63
    go_wp2_with fail
    refine (count_any _ _ _ _ hla).mono ?_
    rintro e w' ⟨rfl, rfl⟩
    go_wp2_with fail
    refine (count_any _ _ _ _ hlb).mono ?_
    rintro e w' ⟨rfl, rfl⟩
    go_wp2_with fail
    refine (HM.out _ (PairAt.new _ _ _ _ hm1)).mono ?_
    rintro e w' ⟨rfl, h⟩
    have cv := cell_of_one h.var
    have HO := hid h.own
    have HB := hid h.old
    clear h HM hmk
    go_wp2
    go_ret
    exact ⟨_, _, rfl, HO.out, HB.out⟩
  · obtain rfl : la = m := by omega
    clear hm
    go_enter Tryz.func63, Tryz.ntmps63
    go_wp2_with fail
    refine (count_any _ _ _ _ hla).mono ?_
    rintro e w' ⟨rfl, rfl⟩
    go_wp2_with fail
    refine (count_any _ _ _ _ hlb).mono ?_
    rintro e w' ⟨rfl, rfl⟩
    go_wp2_with fail
    refine (HM.out _ (PairAt.new _ _ _ _ hm1)).mono ?_
    rintro e w' ⟨rfl, h⟩
    have cv := cell_of_one h.var
    have HO := hid h.own
    have HB := hid h.old
    clear h HM hmk
    go_wp2
    go_ret
    exact ⟨_, _, rfl, HO.out, HB.out⟩
theorem vadd_any (a b : Option Addr) (la ca lb cb : Nat) (xs ys : List Int) (w : World) (ha : Reads .i64 w a la ca xs) (hb : Reads .i64 w b lb cb ys) (hla : la ≤ 1000) (hlb : lb ≤ 1000) :
    Calls Tryz.prog 45 #[.slice a la ca, .slice b lb cb] w fun e w' => Made w (min la lb) (pairK addZ xs ys (min la lb)) e w' := by
  have HE := hid (madeofboth_any 64 #[] (enters_of Tryz.func64 (by kernel_rfl) rfl) a b la ca lb cb xs ys w ha hb hla hlb addZ fun x y wr hb => (add_any x y wr).mono fun e w' ⟨h1, h2⟩ => ⟨h1, by rw [h2]; exact Below.refl _ _⟩)
  clear ha hb
  go_enter Tryz.func45, Tryz.ntmps45
  go_wp2_with fail
  refine HE.out.mono ?_
  rintro e w' ⟨g, cap, rfl, hO, hb⟩
  have HO := hid hO
  have HB := hid hb
  clear hO hb HE
  go_wp2
  go_ret
  exact ⟨_, _, rfl, HO.out, HB.out⟩
end Go.Proofs.YtahpilgbabjebaaGreat
namespace Go.Proofs.YtahpilgbabjebaaGreat
open Go.RowKit
set_option linter.unusedVariables false
set_option maxRecDepth 1000000

/-- The sum of the first k, in order. -/
def sumK (ps : List Int) : Nat → Int
  | 0 => 0
  | k + 1 => addZ (sumK ps k) (ps[k]?.getD 0)
/-- What the places of a vector are divided by, that its length be 1. -/
def rootZ (zs : List Int) : Int := sqrtZ (addZ (divZ (dotK zs zs zs.length) (fromZ zs.length)) 1)
def normL (zs : List Int) : List Int := zs.map (divZ · (rootZ zs))
/-- The powers of which weights are made. -/
def powL (zs : List Int) : List Int := zs.map fun x => expZ (addZ x (-(greatK zs zs.length)))
def softL (zs : List Int) : List Int := (powL zs).map (divZ · (sumK (powL zs) zs.length))
theorem powL_len (zs : List Int) : (powL zs).length = zs.length := by simp [powL]

theorem norm_any (a : Option Addr) (len cap : Nat) (zs : List Int) (w : World) (ha : Reads .i64 w a len cap zs) (hlen : len ≤ 1000) :
    Calls Tryz.prog 82 #[.slice a len cap] w fun e w' => Made w len (normL zs) e w' := by
  have hz := ha.size
  subst hz
  have hD := dot_any a a _ cap _ cap zs zs w ha ha hlen hlen
  rw [Nat.min_self] at hD
  have HR : Hid (sqrtZ (addZ (divZ (dotK zs zs zs.length) (fromZ zs.length)) 1) = rootZ zs) := rfl
  have HE : Hid (∀ w1, Below w.heap.size w w1 → Calls Tryz.prog 125 #[.slice a zs.length cap, .func (.func 126) #[] #[.pointer (some ⟨w1.heap.size, 0, none⟩)]] (w1.alloc (.cells #[.int .i64 (rootZ zs)] 2))
      fun e w' => Made w zs.length (normL zs) e w') := by
    intro w1 hb1
    have hn := SumAt.new w1 (rootZ zs)
    have hsz : w.heap.size ≤ (w1.alloc (.cells #[.int .i64 (rootZ zs)] 2)).heap.size := by have := hb1.size; simp; omega
    refine (madeof_any 126 #[.pointer (some ⟨w1.heap.size, 0, none⟩)] (enters_of Tryz.func126 (by kernel_rfl) rfl) a zs.length cap zs _ ((ha.below hb1).below hn.2) hlen (divZ · (rootZ zs)) fun x wr hb => (norm1_any x (rootZ zs) w1.heap.size wr ((hb.block _ (lt_of_block hn.1)).trans hn.1)).mono fun e w' ⟨h1, h2⟩ => ⟨h1, by rw [h2]; exact Below.refl _ _⟩).mono ?_
    rintro e w' ⟨g, rfl, hO, hb⟩
    exact ⟨g, _, rfl, hO.low hsz, hb1.trans ((hn.2.mono hb1.size).trans (hb.mono hsz))⟩
  clear ha
  go_enter Tryz.func82, Tryz.ntmps82
  go_wp2_with fail
  refine hD.mono ?_
  rintro e w1 ⟨rfl, hb1⟩
  have hE := HE.out w1 hb1
  clear HE hD hb1
  go_wp2_with fail
  refine (count_any _ _ _ _ hlen).mono ?_
  rintro e w' ⟨rfl, rfl⟩
  go_wp2_with fail
  refine (from_any _ _).mono ?_
  rintro e w' ⟨rfl, rfl⟩
  go_wp2_with fail
  refine (div_any _ _ _).mono ?_
  rintro e w' ⟨rfl, rfl⟩
  go_wp2_with fail
  refine (add_any _ _ _).mono ?_
  rintro e w' ⟨rfl, rfl⟩
  go_wp2_with fail
  refine (sqrt_any _ _).mono ?_
  rintro e w' ⟨rfl, rfl⟩
  rw [HR.out]
  go_wp2_with fail
  refine hE.mono ?_
  rintro e w' ⟨g, cap', rfl, hO, hb⟩
  have HO := hid hO
  have HB := hid hb
  clear hO hb hE
  go_wp2
  go_ret
  exact ⟨_, _, rfl, HO.out, HB.out⟩

theorem soft_any (a : Option Addr) (len cap : Nat) (zs : List Int) (w : World) (ha : Reads .i64 w a len cap zs) (hlen : len ≤ 1000) :
    Calls Tryz.prog 109 #[.slice a len cap] w fun e w' => Made w len (softL zs) e w' := by
  have hz := ha.size
  subst hz
  have hG := greatest_any a _ cap zs w ha hlen
  have HE1 : Hid (∀ w1, Below w.heap.size w w1 → Calls Tryz.prog 125 #[.slice a zs.length cap, .func (.func 139) #[] #[.pointer (some ⟨w1.heap.size, 0, none⟩)]] (w1.alloc (.cells #[.int .i64 (greatK zs zs.length)] 2))
      fun e w' => ∃ g, e = .returned (.slice (some ⟨g, 0, none⟩) zs.length zs.length) ∧ OwnK 2 w.heap.size g zs.length zs.length (powL zs) w' ∧ Below w.heap.size w w') := by
    intro w1 hb1
    have hn := SumAt.new w1 (greatK zs zs.length)
    have hgb := greatK_bd zs zs.length
    have hsz : w.heap.size ≤ (w1.alloc (.cells #[.int .i64 (greatK zs zs.length)] 2)).heap.size := by have := hb1.size; simp; omega
    refine (madeof_any 139 #[.pointer (some ⟨w1.heap.size, 0, none⟩)] (enters_of Tryz.func139 (by kernel_rfl) rfl) a zs.length cap zs _ ((ha.below hb1).below hn.2) hlen (fun x => expZ (addZ x (-(greatK zs zs.length)))) fun x wr hb => (soft1_any x _ hgb.1 hgb.2 w1.heap.size wr ((hb.block _ (lt_of_block hn.1)).trans hn.1)).mono fun e w' ⟨h1, h2⟩ => ⟨h1, by rw [h2]; exact Below.refl _ _⟩).mono ?_
    rintro e w' ⟨g, rfl, hO, hb⟩
    exact ⟨g, rfl, hO.low hsz, hb1.trans ((hn.2.mono hb1.size).trans (hb.mono hsz))⟩
  have HE2 : Hid (∀ w2 g, OwnK 2 w.heap.size g zs.length zs.length (powL zs) w2 → Calls Tryz.prog 114 #[.slice (some ⟨g, 0, none⟩) zs.length zs.length, .func (.func 141) #[] #[.pointer (some ⟨w2.heap.size, 0, none⟩)]] (w2.alloc (.cells #[.int .i64 0] 2))
      fun e w' => e = .returned (.tuple #[]) ∧ SumAt w2 w2.heap.size (sumK (powL zs) zs.length) w') := by
    intro w2 g hO
    refine each_any 141 _ _ zs.length zs.length (powL zs) _ hlen (fun k W => SumAt w2 w2.heap.size (sumK (powL zs) k) W) (enters_of Tryz.func141 (by kernel_rfl) rfl) (fun k wr h => hO.reads.below h.2) (SumAt.new w2 0) ?_
    intro k wr hk hi
    exact (soft2_any k _ _ w2.heap.size wr hi.1).mono fun e w' ⟨h1, h2, h3⟩ => ⟨h1, h2, hi.2.trans (h3.to one_le hi.2.size)⟩
  have HE3 : Hid (∀ w2 w3 g, OwnK 2 w.heap.size g zs.length zs.length (powL zs) w2 → Below w.heap.size w w2 → SumAt w2 w2.heap.size (sumK (powL zs) zs.length) w3 → Calls Tryz.prog 125 #[.slice (some ⟨g, 0, none⟩) zs.length zs.length, .func (.func 142) #[] #[.pointer (some ⟨w2.heap.size, 0, none⟩)]] w3
      fun e w' => Made w zs.length (softL zs) e w') := by
    intro w2 w3 g hO hb2 hs
    have h23 : Below w.heap.size w w3 := hb2.trans (hs.2.mono hb2.size)
    refine (madeof_any 142 #[.pointer (some ⟨w2.heap.size, 0, none⟩)] (enters_of Tryz.func142 (by kernel_rfl) rfl) _ zs.length zs.length (powL zs) w3 (hO.reads.below hs.2) hlen (divZ · (sumK (powL zs) zs.length)) fun x wr hb => (soft3_any x _ w2.heap.size wr ((hb.block _ (lt_of_block hs.1)).trans hs.1)).mono fun e w' ⟨h1, h2⟩ => ⟨h1, by rw [h2]; exact Below.refl _ _⟩).mono ?_
    rintro e w' ⟨g', rfl, hO', hb⟩
    exact ⟨g', _, rfl, hO'.low h23.size, h23.trans (hb.mono h23.size)⟩
  clear ha
  go_enter Tryz.func109, Tryz.ntmps109
  go_wp2_with fail
  refine hG.mono ?_
  rintro e w1 ⟨rfl, hb1⟩
  have hE := HE1.out w1 hb1
  clear HE1 hG hb1
  generalize greatK zs zs.length = gr at *
  go_wp2_with fail
  refine hE.mono ?_
  rintro e w2 ⟨g, rfl, hO, hb2⟩
  have hE2 := HE2.out w2 g hO
  have HE4 := hid fun w3 h => HE3.out w2 w3 g hO hb2 h
  clear HE2 HE3 hE hO hb2
  go_wp2_with fail
  refine hE2.mono ?_
  rintro e w3 ⟨rfl, hs⟩
  have hE3 := HE4.out w3 hs
  clear HE4 hE2 hs
  go_wp2_with fail
  refine hE3.mono ?_
  rintro e w' ⟨g, cap', rfl, hO, hb⟩
  have HO := hid hO
  have HB := hid hb
  clear hO hb hE3
  go_wp2
  go_ret
  exact ⟨_, _, rfl, HO.out, HB.out⟩
theorem cell_al {w : World} {p : Addr} {v : Value} (h : w.cell? p = some v) (o : Obj) : (w.alloc o).cell? p = some v :=
  (((Below.refl w.heap.size w).alloc (Nat.le_refl _) o).cell (World.block_lt_of_cell? _ _ h)).trans h
end Go.Proofs.YtahpilgbabjebaaGreat
namespace Go.Proofs.YtahpilgbabjebaaGreat
open Go.RowKit
set_option linter.unusedVariables false
set_option maxRecDepth 1000000

theorem count2_any (a : Option Addr) (len cap : Nat) (w : World) (hlen : len ≤ 1000) :
    Calls Tryz.prog 153 #[.slice a len cap] w fun e w' => e = .returned (.int .i64 len) ∧ w' = w := by
  go_enter Tryz.func153, Tryz.ntmps153
  go_wp2
  go_ret
  exact ⟨rfl, rfl⟩
theorem each2_any (fn : Nat) (caps : Array Value) (a : Option Addr) (len cap : Nat) (hs : List Hd) (w : World) (hlen : len ≤ 1000) (I : Nat → World → Prop)
    (hE : ∀ args w, (callFunc fn args).run Tryz.prog w = .ok (.enter fn args) w) (hR : ∀ k wr, I k wr → Rd2 wr a len cap hs) (h0 : I 0 w)
    (hS : ∀ k wr, k < len → I k wr → Calls Tryz.prog fn (#[.int .i64 (k : Int), .slice (hs[k]?.getD (none, 0, 0)).1 (hs[k]?.getD (none, 0, 0)).2.1 (hs[k]?.getD (none, 0, 0)).2.2] ++ caps) wr fun e w' => e = .returned (.tuple #[]) ∧ I (k + 1) w') :
    Calls Tryz.prog 154 #[.slice a len cap, .func (.func fn) #[] caps] w fun e w' => e = .returned (.tuple #[]) ∧ I len w' := by
  have hr0 := hR 0 w h0
  have hroom := hr0.room
  have hmost := hr0.most
  have hbare := hr0.bare
  clear hr0
  have H0 := hid h0
  have HR := hid hR
  have HS := hid hS
  clear h0 hR hS
  go_enter Tryz.func154, Tryz.ntmps154
  cases a with
  | none =>
    obtain ⟨rfl, rfl⟩ := hbare rfl
    go_wp2_with fail
    refine (count2_any _ _ _ _ (by omega)).mono ?_
    rintro e w' ⟨rfl, rfl⟩
    go_wp2_with fail
    go_loopw [11] (fun i wr => ∃ k : Nat, k = 0 ∧ i = .int .i64 k ∧ Hid (I k wr)) (fun i _ => 0 - (intOf i).toNat)
    case atStart => exact ⟨0, rfl, rfl, H0⟩
    case round =>
      obtain ⟨k, rfl, rfl, HI⟩ := hrel
      go_wp2
      go_end0
      exact ⟨rfl, HI.out⟩
  | some ad =>
    clear hbare
    go_wp2_with fail
    refine (count2_any _ _ _ _ (by omega)).mono ?_
    rintro e w' ⟨rfl, rfl⟩
    go_wp2_with fail
    go_loopw [11] (fun i wr => ∃ k : Nat, k ≤ len ∧ i = .int .i64 k ∧ Hid (I k wr)) (fun i _ => len - (intOf i).toNat)
    case atStart => exact ⟨0, Nat.zero_le _, rfl, H0⟩
    case round =>
      obtain ⟨k, hk, rfl, HI⟩ := hrel
      by_cases hlt : k < len
      · obtain ⟨b, off, hab, hc⟩ := (HR.out k wr HI.out).cell k hlt
        cases hab
        have hC := HS.out k wr hlt HI.out
        generalize hs[k]?.getD (none, 0, 0) = z at *
        obtain ⟨z1, z2, z3⟩ := z
        simp only at hc hC
        go_wp2_with fail
        refine hC.mono ?_
        rintro e w2 ⟨rfl, hI2⟩
        have HI2 := hid hI2
        clear hI2 hC
        go_wp2_with fail
        go_round
        case rel => exact ⟨k + 1, by omega, by go_num, HI2⟩
        case measure => simp [intOf]; omega
      · obtain rfl : k = len := by omega
        go_wp2
        go_end0
        exact ⟨rfl, HI.out⟩

theorem made2_any (fn : Nat) (caps : Array Value) (hE : ∀ args w, (callFunc fn args).run Tryz.prog w = .ok (.enter fn args) w) (k : Nat) (x : Hd) (y : Int) (Bo Bm base g m : Nat) (us : List Int) (wr : World) (hm : m ≤ 1000)
    (ho : wr.heap[Bo]? = some (.cells #[.func (.func fn) #[] caps] 121 (0, 0))) (hq : wr.heap[Bm]? = some (.cells #[.slice (some ⟨g, 0, none⟩) m m] 70 (0, 0)))
    (hO : OwnK 2 base g m m us wr) (hk : k < m) (hgo : Bo ≠ g) (hgm : Bm ≠ g)
    (hC : Calls Tryz.prog fn (#[.slice x.1 x.2.1 x.2.2] ++ caps) wr.drew fun e w' => e = .returned (.int .i64 y) ∧ Below wr.heap.size wr w') :
    Calls Tryz.prog 155 #[.int .i64 k, .slice x.1 x.2.1 x.2.2, .pointer (some ⟨Bo, 0, none⟩), .pointer (some ⟨Bm, 0, none⟩)] wr fun e w' => e = .returned (.tuple #[]) ∧ OwnK 2 base g m m (us.set k y) w' ∧ But [g] wr w' := by
  obtain ⟨x1, x2, x3⟩ := x
  simp only at hC ⊢
  have cd := cell_of_one ho
  have cq := cell_of_one hq
  have HO := hid hO
  have HK : Hid (∀ W, But [g] wr W → W.cell? ⟨Bo, 0, none⟩ = some (.func (.func fn) #[] caps) ∧ W.cell? ⟨Bm, 0, none⟩ = some (.slice (some ⟨g, 0, none⟩) m m)) :=
    fun W h => ⟨h.cell cd (by simpa using hgo), h.cell cq (by simpa using hgm)⟩
  clear ho hq hO hgo hgm
  go_enter Tryz.func155, Tryz.ntmps155
  go_wp2_with fail
  go_region_held3 (fun W : World => W.cell? ⟨Bo, 0, none⟩ = some (.func (.func fn) #[] caps) ∧ W.cell? ⟨Bm, 0, none⟩ = some (.slice (some ⟨g, 0, none⟩) m m)) (first | exact ⟨cd, cq⟩ | assumption | exact HK.out _ (But.of hB) | exact HK.out _ ((But.of hB).set (p := ⟨g, k, none⟩) (List.mem_singleton.2 rfl) _)) (first | (refine hC.mono ?_; rintro e w2 ⟨rfl, hB⟩; have HO2 := hid (HO.out.stays hB); have ck := HO2.out.cell hk; have fk := HO2.out.frozen k))
  have HS : Hid (OwnK 2 base g m m (us.set k y) (w2.setCell ⟨g, k, none⟩ (.int .i64 y))) := HO2.out.set k y
  have HB : Hid (But [g] wr (w2.setCell ⟨g, k, none⟩ (.int .i64 y))) := (But.of hB).set (p := ⟨g, k, none⟩) (List.mem_singleton.2 rfl) _
  clear HK cd cq HO HO2 ck fk hB hC
  go_wp2
  go_end0
  exact ⟨rfl, HS.out, HB.out⟩

theorem madeof2_any (fn : Nat) (caps : Array Value) (hE : ∀ args w, (callFunc fn args).run Tryz.prog w = .ok (.enter fn args) w) (a : Option Addr) (len cap : Nat) (hs : List Hd) (w : World) (ha : Rd2 w a len cap hs) (hlen : len ≤ 1000) (f : Nat → Int)
    (hC : ∀ k wr, k < len → Below w.heap.size w wr → Calls Tryz.prog fn (#[.slice (hs[k]?.getD (none, 0, 0)).1 (hs[k]?.getD (none, 0, 0)).2.1 (hs[k]?.getD (none, 0, 0)).2.2] ++ caps) wr fun e w' => e = .returned (.int .i64 (f k)) ∧ Below wr.heap.size wr w') :
    Calls Tryz.prog 135 #[.slice a len cap, .func (.func fn) #[] caps] w fun e w' => Made w len (rowK f len) e w' := by
  have HM : Hid (∀ W, MadeAt w fn caps 121 w.heap.size len (List.replicate len 0) W → Calls Tryz.prog 154 #[.slice a len cap, .func (.func 155) #[] #[.pointer (some ⟨w.heap.size, 0, none⟩), .pointer (some ⟨w.heap.size + 2, 0, none⟩)]] W
      fun e w' => e = .returned (.tuple #[]) ∧ MadeAt w fn caps 121 w.heap.size len (rowK f len) w') := by
    intro W h0
    refine (each2_any 155 _ a len cap hs W hlen (fun k W => MadeAt w fn caps 121 w.heap.size len (rowK f k ++ List.replicate (len - k) 0) W) (enters_of Tryz.func155 (by kernel_rfl) rfl) ?_ ?_ ?_).mono ?_
    · intro k wr hk
      exact ha.below hk.old
    · exact h0
    · intro k wr hk hI
      have hdr : Below wr.heap.size wr wr.drew := (Below.refl _ _).drew
      refine (made2_any fn caps hE k _ (f k) w.heap.size (w.heap.size + 2) w.heap.size (w.heap.size + 1) len _ wr hlen hI.fun_ hI.var hI.own hk (by omega) (by omega) ?_).mono ?_
      · exact (hC k _ hk (hI.old.trans (hdr.mono hI.old.size))).mono fun e w' ⟨h1, h2⟩ => ⟨h1, hdr.trans (h2.mono (Nat.le_refl _))⟩
      · rintro e w' ⟨h1, h2, h3⟩
        refine ⟨h1, ?_, h3.one hI.fun_ (by simp), h3.one hI.var (by simp), ?_⟩
        · exact hI.old.trans (h3.to (fun s hs => by rw [List.mem_singleton.1 hs]; omega) hI.old.size)
        · rw [← rowK_set f hk]; exact h2
    · rintro e w' ⟨h1, h2⟩
      rw [Nat.sub_self, List.replicate_zero, List.append_nil] at h2
      exact ⟨h1, h2⟩
  have hmk := make_ints (w.alloc (.cells #[.func (.func fn) #[] caps] 121)) len (by omega)
  clear ha hC
  go_enter Tryz.func135, Tryz.ntmps135
  go_wp2_with fail
  refine (count2_any _ _ _ _ hlen).mono ?_
  rintro e w' ⟨rfl, rfl⟩
  go_wp2_with fail
  refine (HM.out _ (MadeAt.new _ _ _ _ _ hlen)).mono ?_
  rintro e w' ⟨rfl, h⟩
  have cv := cell_of_one h.var
  have HO := hid h.own
  have HB := hid h.old
  clear h HM hmk
  go_wp2
  go_ret
  exact ⟨_, _, rfl, HO.out, HB.out⟩

theorem mul1_any (a b : Option Addr) (la ca lb cb : Nat) (xs ys : List Int) (B : Nat) (w : World) (ha : Reads .i64 w a la ca xs) (hb : Reads .i64 w b lb cb ys) (hla : la ≤ 1000) (hlb : lb ≤ 1000)
    (hB : w.heap[B]? = some (.cells #[.slice b lb cb] 70 (0, 0))) :
    Calls Tryz.prog 136 #[.slice a la ca, .pointer (some ⟨B, 0, none⟩)] w fun e w' => e = .returned (.int .i64 (dotK xs ys (min la lb))) ∧ Below w.heap.size w w' := by
  have cs := cell_of_one hB
  have hD := dot_any a b la ca lb cb xs ys w ha hb hla hlb
  clear hB ha hb
  go_enter Tryz.func136, Tryz.ntmps136
  go_wp2_with fail
  refine hD.mono ?_
  rintro e w' ⟨rfl, hb⟩
  have HB := hid hb
  clear hb hD
  go_wp2
  go_ret
  exact ⟨rfl, HB.out⟩
/-- Of each row its product with a vector. -/
def mulF (xss : List (List Int)) (ys : List Int) (i : Nat) : Int := dotK (xss[i]?.getD []) ys (min (xss[i]?.getD []).length ys.length)
theorem vmul_any (a b : Option Addr) (la ca lb cb : Nat) (hs : List Hd) (xss : List (List Int)) (ys : List Int) (w : World) (ha : Tbl w a la ca hs xss) (hb : Reads .i64 w b lb cb ys) (hla : la ≤ 1000) (hlb : lb ≤ 1000) :
    Calls Tryz.prog 107 #[.slice a la ca, .slice b lb cb] w fun e w' => Made w la (rowK (mulF xss ys) la) e w' := by
  have hbl : Below w.heap.size w (w.alloc (.cells #[.slice b lb cb] 70)) := (Below.refl _ _).alloc (Nat.le_refl _) _
  have hnew := heap_alloc_new w (.cells #[.slice b lb cb] 70)
  have HE := hid (madeof2_any 136 #[.pointer (some ⟨w.heap.size, 0, none⟩)] (enters_of Tryz.func136 (by kernel_rfl) rfl) a la ca hs _ (ha.below hbl).rd hla (mulF xss ys) fun k wr hk hw => by
    have h1 := ((ha.below hbl).below hw).rows k hk
    have h2 := (hb.below hbl).below hw
    refine (mul1_any _ _ _ _ _ _ _ _ w.heap.size wr h1 h2 (ha.short k hk) hlb ((hw.block _ (by simp)).trans hnew)).mono ?_
    rintro e w' ⟨e1, e2⟩
    refine ⟨?_, e2⟩
    rw [e1]
    unfold mulF
    rw [h1.size, h2.size])
  have HS : Hid (w.heap.size ≤ (w.alloc (.cells #[.slice b lb cb] 70)).heap.size) := by unfold Hid; simp
  have HN := hid hbl
  clear hbl ha hb hnew
  go_enter Tryz.func107, Tryz.ntmps107
  go_wp2_with fail
  refine HE.out.mono ?_
  rintro e w' ⟨g, cap, rfl, hO, hb⟩
  have HO := hid (hO.low HS.out)
  have HB := hid (HN.out.trans (hb.mono HS.out))
  clear hO hb HE
  go_wp2
  go_ret
  exact ⟨_, _, rfl, HO.out, HB.out⟩
end Go.Proofs.YtahpilgbabjebaaGreat
