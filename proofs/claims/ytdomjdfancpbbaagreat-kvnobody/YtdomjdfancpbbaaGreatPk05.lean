/-
  Tables: Tables (Tbl); contracts: each and madeOf over a table, Mul: of each row its product with a vector.
  Mixes: Contract: Mix mixes rows by weights, mixK.
  RNums: Contracts of the document's numbers: sum, product, quotient, whole number, power of e, square root.
-/
import Derived.Test.YtdomjdfancpbbaaGreatPk04
namespace Go.Proofs.YtdomjdfancpbbaaGreat
open Go.RowKit
set_option linter.unusedVariables false
set_option maxRecDepth 1000000

theorem count2_any (a : Option Addr) (len cap : Nat) (w : World) (hlen : len ≤ 1000) :
    Calls Tryz.prog 146 #[.slice a len cap] w fun e w' => e = .returned (.int .i64 len) ∧ w' = w := by
  go_enter Tryz.func146, Tryz.ntmps146
  go_wp2
  go_ret
  exact ⟨rfl, rfl⟩
theorem each2_any (fn : Nat) (caps : Array Value) (a : Option Addr) (len cap : Nat) (hs : List Hd) (w : World) (hlen : len ≤ 1000) (I : Nat → World → Prop)
    (hE : ∀ args w, (callFunc fn args).run Tryz.prog w = .ok (.enter fn args) w) (hR : ∀ k wr, I k wr → Rd2 wr a len cap hs) (h0 : I 0 w)
    (hS : ∀ k wr, k < len → I k wr → Calls Tryz.prog fn (#[.int .i64 (k : Int), .slice (hs[k]?.getD (none, 0, 0)).1 (hs[k]?.getD (none, 0, 0)).2.1 (hs[k]?.getD (none, 0, 0)).2.2] ++ caps) wr fun e w' => e = .returned (.tuple #[]) ∧ I (k + 1) w') :
    Calls Tryz.prog 147 #[.slice a len cap, .func (.func fn) #[] caps] w fun e w' => e = .returned (.tuple #[]) ∧ I len w' := by
  have hr0 := hR 0 w h0
  have hroom := hr0.room
  have hmost := hr0.most
  have hbare := hr0.bare
  clear hr0
  have H0 := hid h0
  have HR := hid hR
  have HS := hid hS
  clear h0 hR hS
  go_enter Tryz.func147, Tryz.ntmps147
  cases a with
  | none =>
    obtain ⟨rfl, rfl⟩ := hbare rfl
    go_wp2_with fail
    refine (count2_any _ _ _ _ (by omega)).mono ?_
    rintro e w' ⟨rfl, rfl⟩
    go_wp2_with fail
    go_loopw [11] (fun i wr => ∃ k : Nat, k = 0 ∧ i = .int .i64 k ∧ Hid (I k wr)) (fun i _ => 0 - (intOf i).toNat)
    case atStart => exact ⟨0, rfl, rfl, H0⟩
    case round =>
      obtain ⟨k, rfl, rfl, HI⟩ := hrel
      go_wp2
      go_end0
      exact ⟨rfl, HI.out⟩
  | some ad =>
    clear hbare
    go_wp2_with fail
    refine (count2_any _ _ _ _ (by omega)).mono ?_
    rintro e w' ⟨rfl, rfl⟩
    go_wp2_with fail
    go_loopw [11] (fun i wr => ∃ k : Nat, k ≤ len ∧ i = .int .i64 k ∧ Hid (I k wr)) (fun i _ => len - (intOf i).toNat)
    case atStart => exact ⟨0, Nat.zero_le _, rfl, H0⟩
    case round =>
      obtain ⟨k, hk, rfl, HI⟩ := hrel
      by_cases hlt : k < len
      · obtain ⟨b, off, hab, hc⟩ := (HR.out k wr HI.out).cell k hlt
        cases hab
        have hC := HS.out k wr hlt HI.out
        generalize hs[k]?.getD (none, 0, 0) = z at *
        obtain ⟨z1, z2, z3⟩ := z
        simp only at hc hC
        go_wp2_with fail
        refine hC.mono ?_
        rintro e w2 ⟨rfl, hI2⟩
        have HI2 := hid hI2
        clear hI2 hC
        go_wp2_with fail
        go_round
        case rel => exact ⟨k + 1, by omega, by go_num, HI2⟩
        case measure => simp [intOf]; omega
      · obtain rfl : k = len := by omega
        go_wp2
        go_end0
        exact ⟨rfl, HI.out⟩

theorem made2_any (fn : Nat) (caps : Array Value) (hE : ∀ args w, (callFunc fn args).run Tryz.prog w = .ok (.enter fn args) w) (k : Nat) (x : Hd) (y : Int) (Bo Bm base g m : Nat) (us : List Int) (wr : World) (hm : m ≤ 1000)
    (ho : wr.heap[Bo]? = some (.cells #[.func (.func fn) #[] caps] 158 (0, 0))) (hq : wr.heap[Bm]? = some (.cells #[.slice (some ⟨g, 0, none⟩) m m] 99 (0, 0)))
    (hO : OwnK 2 base g m m us wr) (hk : k < m) (hgo : Bo ≠ g) (hgm : Bm ≠ g)
    (hC : Calls Tryz.prog fn (#[.slice x.1 x.2.1 x.2.2] ++ caps) wr.drew fun e w' => e = .returned (.int .i64 y) ∧ Below wr.heap.size wr w') :
    Calls Tryz.prog 148 #[.int .i64 k, .slice x.1 x.2.1 x.2.2, .pointer (some ⟨Bo, 0, none⟩), .pointer (some ⟨Bm, 0, none⟩)] wr fun e w' => e = .returned (.tuple #[]) ∧ OwnK 2 base g m m (us.set k y) w' ∧ But [g] wr w' := by
  obtain ⟨x1, x2, x3⟩ := x
  simp only at hC ⊢
  have cd := cell_of_one ho
  have cq := cell_of_one hq
  have HO := hid hO
  have HK : Hid (∀ W, But [g] wr W → W.cell? ⟨Bo, 0, none⟩ = some (.func (.func fn) #[] caps) ∧ W.cell? ⟨Bm, 0, none⟩ = some (.slice (some ⟨g, 0, none⟩) m m)) :=
    fun W h => ⟨h.cell cd (by simpa using hgo), h.cell cq (by simpa using hgm)⟩
  clear ho hq hO hgo hgm
  go_enter Tryz.func148, Tryz.ntmps148
  go_wp2_with fail
  go_region_held3 (fun W : World => W.cell? ⟨Bo, 0, none⟩ = some (.func (.func fn) #[] caps) ∧ W.cell? ⟨Bm, 0, none⟩ = some (.slice (some ⟨g, 0, none⟩) m m)) (first | exact ⟨cd, cq⟩ | assumption | exact HK.out _ (But.of hB) | exact HK.out _ ((But.of hB).set (p := ⟨g, k, none⟩) (List.mem_singleton.2 rfl) _)) (first | (refine hC.mono ?_; rintro e w2 ⟨rfl, hB⟩; have HO2 := hid (HO.out.stays hB); have ck := HO2.out.cell hk; have fk := HO2.out.frozen k))
  have HS : Hid (OwnK 2 base g m m (us.set k y) (w2.setCell ⟨g, k, none⟩ (.int .i64 y))) := HO2.out.set k y
  have HB : Hid (But [g] wr (w2.setCell ⟨g, k, none⟩ (.int .i64 y))) := (But.of hB).set (p := ⟨g, k, none⟩) (List.mem_singleton.2 rfl) _
  clear HK cd cq HO HO2 ck fk hB hC
  go_wp2
  go_end0
  exact ⟨rfl, HS.out, HB.out⟩

theorem madeof2_any (fn : Nat) (caps : Array Value) (hE : ∀ args w, (callFunc fn args).run Tryz.prog w = .ok (.enter fn args) w) (a : Option Addr) (len cap : Nat) (hs : List Hd) (w : World) (ha : Rd2 w a len cap hs) (hlen : len ≤ 1000) (f : Nat → Int)
    (hC : ∀ k wr, k < len → Below w.heap.size w wr → Calls Tryz.prog fn (#[.slice (hs[k]?.getD (none, 0, 0)).1 (hs[k]?.getD (none, 0, 0)).2.1 (hs[k]?.getD (none, 0, 0)).2.2] ++ caps) wr fun e w' => e = .returned (.int .i64 (f k)) ∧ Below wr.heap.size wr w') :
    Calls Tryz.prog 132 #[.slice a len cap, .func (.func fn) #[] caps] w fun e w' => Made w len (rowK f len) e w' := by
  have HM : Hid (∀ W, MadeAt w fn caps 158 w.heap.size len (List.replicate len 0) W → Calls Tryz.prog 147 #[.slice a len cap, .func (.func 148) #[] #[.pointer (some ⟨w.heap.size, 0, none⟩), .pointer (some ⟨w.heap.size + 2, 0, none⟩)]] W
      fun e w' => e = .returned (.tuple #[]) ∧ MadeAt w fn caps 158 w.heap.size len (rowK f len) w') := by
    intro W h0
    refine (each2_any 148 _ a len cap hs W hlen (fun k W => MadeAt w fn caps 158 w.heap.size len (rowK f k ++ List.replicate (len - k) 0) W) (enters_of Tryz.func148 (by kernel_rfl) rfl) ?_ ?_ ?_).mono ?_
    · intro k wr hk
      exact ha.below hk.old
    · exact h0
    · intro k wr hk hI
      have hdr : Below wr.heap.size wr wr.drew := (Below.refl _ _).drew
      refine (made2_any fn caps hE k _ (f k) w.heap.size (w.heap.size + 2) w.heap.size (w.heap.size + 1) len _ wr hlen hI.fun_ hI.var hI.own hk (by omega) (by omega) ?_).mono ?_
      · exact (hC k _ hk (hI.old.trans (hdr.mono hI.old.size))).mono fun e w' ⟨h1, h2⟩ => ⟨h1, hdr.trans (h2.mono (Nat.le_refl _))⟩
      · rintro e w' ⟨h1, h2, h3⟩
        refine ⟨h1, ?_, h3.one hI.fun_ (by simp), h3.one hI.var (by simp), ?_⟩
        · exact hI.old.trans (h3.to (fun s hs => by rw [List.mem_singleton.1 hs]; omega) hI.old.size)
        · rw [← rowK_set f hk]; exact h2
    · rintro e w' ⟨h1, h2⟩
      rw [Nat.sub_self, List.replicate_zero, List.append_nil] at h2
      exact ⟨h1, h2⟩
  have hmk := make_ints (w.alloc (.cells #[.func (.func fn) #[] caps] 158)) len (by omega)
  clear ha hC
  go_enter Tryz.func132, Tryz.ntmps132
  go_wp2_with fail
  refine (count2_any _ _ _ _ hlen).mono ?_
  rintro e w' ⟨rfl, rfl⟩
  go_wp2_with fail
  refine (HM.out _ (MadeAt.new _ _ _ _ _ hlen)).mono ?_
  rintro e w' ⟨rfl, h⟩
  have cv := cell_of_one h.var
  have HO := hid h.own
  have HB := hid h.old
  clear h HM hmk
  go_wp2
  go_ret
  exact ⟨_, _, rfl, HO.out, HB.out⟩

theorem mul1_any (a b : Option Addr) (la ca lb cb : Nat) (xs ys : List Int) (B : Nat) (w : World) (ha : Reads .i64 w a la ca xs) (hb : Reads .i64 w b lb cb ys) (hla : la ≤ 1000) (hlb : lb ≤ 1000)
    (hB : w.heap[B]? = some (.cells #[.slice b lb cb] 99 (0, 0))) :
    Calls Tryz.prog 133 #[.slice a la ca, .pointer (some ⟨B, 0, none⟩)] w fun e w' => e = .returned (.int .i64 (dotK xs ys (min la lb))) ∧ Below w.heap.size w w' := by
  have cs := cell_of_one hB
  have hD := dot_any a b la ca lb cb xs ys w ha hb hla hlb
  clear hB ha hb
  go_enter Tryz.func133, Tryz.ntmps133
  go_wp2_with fail
  refine hD.mono ?_
  rintro e w' ⟨rfl, hb⟩
  have HB := hid hb
  clear hb hD
  go_wp2
  go_ret
  exact ⟨rfl, HB.out⟩
/-- Of each row its product with a vector. -/
def mulF (xss : List (List Int)) (ys : List Int) (i : Nat) : Int := dotK (xss[i]?.getD []) ys (min (xss[i]?.getD []).length ys.length)
theorem vmul_any (a b : Option Addr) (la ca lb cb : Nat) (hs : List Hd) (xss : List (List Int)) (ys : List Int) (w : World) (ha : Tbl w a la ca hs xss) (hb : Reads .i64 w b lb cb ys) (hla : la ≤ 1000) (hlb : lb ≤ 1000) :
    Calls Tryz.prog 109 #[.slice a la ca, .slice b lb cb] w fun e w' => Made w la (rowK (mulF xss ys) la) e w' := by
  have hbl : Below w.heap.size w (w.alloc (.cells #[.slice b lb cb] 99)) := (Below.refl _ _).alloc (Nat.le_refl _) _
  have hnew := heap_alloc_new w (.cells #[.slice b lb cb] 99)
  have HE := hid (madeof2_any 133 #[.pointer (some ⟨w.heap.size, 0, none⟩)] (enters_of Tryz.func133 (by kernel_rfl) rfl) a la ca hs _ (ha.below hbl).rd hla (mulF xss ys) fun k wr hk hw => by
    have h1 := ((ha.below hbl).below hw).rows k hk
    have h2 := (hb.below hbl).below hw
    refine (mul1_any _ _ _ _ _ _ _ _ w.heap.size wr h1 h2 (ha.short k hk) hlb ((hw.block _ (by simp)).trans hnew)).mono ?_
    rintro e w' ⟨e1, e2⟩
    refine ⟨?_, e2⟩
    rw [e1]
    unfold mulF
    rw [h1.size, h2.size])
  have HS : Hid (w.heap.size ≤ (w.alloc (.cells #[.slice b lb cb] 99)).heap.size) := by unfold Hid; simp
  have HN := hid hbl
  clear hbl ha hb hnew
  go_enter Tryz.func109, Tryz.ntmps109
  go_wp2_with fail
  refine HE.out.mono ?_
  rintro e w' ⟨g, cap, rfl, hO, hb⟩
  have HO := hid (hO.low HS.out)
  have HB := hid (HN.out.trans (hb.mono HS.out))
  clear hO hb HE
  go_wp2
  go_ret
  exact ⟨_, _, rfl, HO.out, HB.out⟩
end Go.Proofs.YtdomjdfancpbbaaGreat
namespace Go.Proofs.YtdomjdfancpbbaaGreat
open Go.RowKit
set_option linter.unusedVariables false
set_option maxRecDepth 1000000

/-- The rows mixed by the first k weights. -/
def mixK (ws : List Int) (xss : List (List Int)) : Nat → List Int
  | 0 => List.replicate (xss[0]?.getD []).length 0
  | k + 1 => pairK (fun x y => addZ x (mulZ y (ws[k]?.getD 0))) (mixK ws xss k) (xss[k]?.getD []) (min (mixK ws xss k).length (xss[k]?.getD []).length)
theorem mixK_len {ws : List Int} {xss : List (List Int)} (h : (xss[0]?.getD []).length ≤ 1000) (k : Nat) : (mixK ws xss k).length ≤ 1000 := by
  induction k with
  | zero => simpa [mixK] using h
  | succ k ih => simp only [mixK]; rw [pairK_len]; omega

theorem mix11_any (x y b : Int) (B : Nat) (w : World) (hB : w.heap[B]? = some (.cells #[.int .i64 b] 2 (0, 0))) :
    Calls Tryz.prog 141 #[.int .i64 x, .int .i64 y, .pointer (some ⟨B, 0, none⟩)] w fun e w' => e = .returned (.int .i64 (addZ x (mulZ y b))) ∧ w' = w := by
  have cs := cell_of_one hB
  clear hB
  go_enter Tryz.func141, Tryz.ntmps141
  go_wp2_with fail
  refine (mul_any _ _ _).mono ?_
  rintro e w' ⟨rfl, rfl⟩
  go_wp2_with fail
  refine (add_any _ _ _).mono ?_
  rintro e w' ⟨rfl, rfl⟩
  go_wp2
  go_ret
  exact ⟨rfl, rfl⟩

/-- What stands in memory between the rounds of Mix: the table, and what is mixed so far. -/
structure MixAt (w : World) (a : Option Addr) (len cap : Nat) (us : List Int) (W : World) : Prop where
  old : Below w.heap.size w W
  rows : W.heap[w.heap.size]? = some (.cells #[.slice a len cap] 83 (0, 0))
  var : ∃ g c, W.heap[w.heap.size + 2]? = some (.cells #[.slice (some ⟨g, 0, none⟩) us.length c] 99 (0, 0)) ∧ OwnK 2 w.heap.size g us.length c us W

theorem mix1_end {w wd w2 : World} {a : Option Addr} {len cap n g2 c2 : Nat} {vs : List Int} {v0 : Value} (hold : Below w.heap.size w wd) (hV : wd.heap[w.heap.size + 2]? = some (.cells #[v0] 99 (0, 0))) (hR : wd.heap[w.heap.size]? = some (.cells #[.slice a len cap] 83 (0, 0)))
    (hO2 : OwnK 2 wd.heap.size g2 n c2 vs w2) (hb2 : Below wd.heap.size wd w2) : MixAt w a len cap vs (w2.setCell ⟨w.heap.size + 2, 0, none⟩ (.slice (some ⟨g2, 0, none⟩) n c2)) := by
  have hl := hO2.len
  have hlt := lt_of_block hV
  have hgb := hO2.base
  have hV2 := (hb2.block _ hlt).trans hV
  subst hl
  refine ⟨(hold.trans (hb2.mono hold.size)).setCell (by show w.heap.size ≤ w.heap.size + 2; omega) _, ?_, g2, c2, one_setCell hV2, ?_⟩
  · rw [Below.heap_setCell _ _ _ _ (by show w.heap.size ≠ w.heap.size + 2; omega)]
    exact (hb2.block _ (lt_of_block hR)).trans hR
  · exact (hO2.low hold.size).same (Below.heap_setCell _ _ _ _ (by show g2 ≠ w.heap.size + 2; omega))

set_option maxHeartbeats 1000000 in
theorem mix1_any (w : World) (a : Option Addr) (len cap k : Nat) (hs : List Hd) (xss : List (List Int)) (us : List Int) (b : Int) (wr : World) (ht : Tbl w a len cap hs xss) (hk : k < len) (hu : us.length ≤ 1000) (h : MixAt w a len cap us wr) :
    Calls Tryz.prog 140 #[.int .i64 k, .int .i64 b, .pointer (some ⟨w.heap.size + 2, 0, none⟩), .pointer (some ⟨w.heap.size, 0, none⟩)] wr
      fun e w' => e = .returned (.tuple #[]) ∧ MixAt w a len cap (pairK (fun x y => addZ x (mulZ y b)) us (xss[k]?.getD []) (min us.length (xss[k]?.getD []).length)) w' := by
  obtain ⟨g, c, hv, hO⟩ := h.var
  obtain ⟨wb, hwb⟩ : ∃ wb, wb = wr.alloc (.cells #[.int .i64 b] 2) := ⟨_, rfl⟩
  have hb0 : Below wr.heap.size wr wb := by rw [hwb]; exact (Below.refl _ _).alloc (Nat.le_refl _) _
  have hnew : wb.heap[wr.heap.size]? = some (.cells #[.int .i64 b] 2 (0, 0)) := by rw [hwb]; exact heap_alloc_new wr _
  have hbd : Below w.heap.size w wb.drew := (h.old.trans (hb0.mono h.old.size)).drew
  have hrow := (ht.below hbd).rows k hk
  have hOb : OwnK 2 w.heap.size g us.length c us wb.drew := hO.stays hb0.drew
  have hC := madeofboth_any 141 #[.pointer (some ⟨wr.heap.size, 0, none⟩)] (enters_of Tryz.func141 (by kernel_rfl) rfl) (some ⟨g, 0, none⟩) (hs[k]?.getD (none, 0, 0)).1 us.length c (hs[k]?.getD (none, 0, 0)).2.1 (hs[k]?.getD (none, 0, 0)).2.2 us (xss[k]?.getD []) wb.drew hOb.reads hrow hu (ht.short k hk) (fun x y => addZ x (mulZ y b))
    fun x y W hW => (mix11_any x y b wr.heap.size W ((hW.block _ (by have := lt_of_block hnew; exact this)).trans hnew)).mono fun e w' ⟨h1, h2⟩ => ⟨h1, by rw [h2]; exact Below.refl _ _⟩
  have HSZ := hid hrow.size
  have cv := cell_of_one (((hb0.drew).block _ (lt_of_block hv)).trans hv)
  have cr := cell_of_one (((hb0.drew).block _ (lt_of_block h.rows)).trans h.rows)
  obtain ⟨b2, o2, ea, ce⟩ := (ht.below hbd).rd.cell k hk
  have hroom := ht.rd.room
  have hmost := ht.rd.most
  have HV : Hid (wb.drew.heap[w.heap.size + 2]? = some (.cells #[.slice (some ⟨g, 0, none⟩) us.length c] 99 (0, 0))) := ((hb0.drew).block _ (lt_of_block hv)).trans hv
  have HR : Hid (wb.drew.heap[w.heap.size]? = some (.cells #[.slice a len cap] 83 (0, 0))) := ((hb0.drew).block _ (lt_of_block h.rows)).trans h.rows
  have HO := hid hbd
  have hq : (k : Int) < (len : Int) := by omega
  clear hb0 hnew hbd hrow hOb hv hO h ht
  subst hwb
  subst ea
  generalize hs[k]?.getD (none, 0, 0) = z at *
  obtain ⟨z1, z2, z3⟩ := z
  simp only at ce hC HSZ
  go_enter Tryz.func140, Tryz.ntmps140
  go_wp2_with fail
  go_region_with (go_at_call 81; refine hC.mono ?_; rintro e w2 ⟨g2, c2, rfl, hO2, hb2⟩; have hv2 := (hb2.block _ (lt_of_block HV.out)).trans HV.out; have cv2 := cell_of_one hv2; have fv2 := free_of_one hv2)
  all_goals
    have HE := hid (mix1_end HO.out HV.out HR.out hO2 hb2)
    clear hO2 hb2 hv2 cv2 fv2 hC cv cr ce
    go_wp2
    go_end0
    refine ⟨rfl, ?_⟩
    rw [HSZ.out]
    exact HE.out

/-- The memory in which Mix begins. -/
theorem MixAt.new (w : World) (a : Option Addr) (len cap n : Nat) (hn : n ≤ 1000) :
    MixAt w a len cap (List.replicate n 0) (((w.alloc (.cells #[.slice a len cap] 83)).alloc (.cells (madeCells #[.int .i64 0] n) 2)).alloc (.cells #[.slice (some ⟨w.heap.size + 1, 0, none⟩) n n] 99)) := by
  have h1 := own_made 2 (w.alloc (.cells #[.slice a len cap] 83)) n (by omega)
  have e1 : (w.alloc (.cells #[.slice a len cap] 83)).heap.size = w.heap.size + 1 := by simp
  rw [e1] at h1
  refine ⟨?_, ?_, w.heap.size + 1, n, ?_, ?_⟩
  · exact (((Below.refl _ _).alloc (Nat.le_refl _) _).alloc (by simp) _).alloc (by simp; omega) _
  · rw [Below.heap_alloc _ _ _ (by simp; omega), Below.heap_alloc _ _ _ (by simp)]
    exact heap_alloc_new w _
  · have := heap_alloc_new ((w.alloc (.cells #[.slice a len cap] 83)).alloc (.cells (madeCells #[.int .i64 0] n) 2)) (.cells #[.slice (some ⟨w.heap.size + 1, 0, none⟩) n n] 99)
    rw [World.size_alloc, World.size_alloc] at this
    rw [List.length_replicate]
    exact this
  · rw [List.length_replicate]
    exact (h1.low (by omega)).stays ((Below.refl _ _).alloc (Nat.le_refl _) _)

theorem vmix_made (a b : Option Addr) (la ca lb cb : Nat) (hs : List Hd) (xss : List (List Int)) (ws : List Int) (w : World) (ha : Tbl w a la ca hs xss) (hb : Reads .i64 w b lb cb ws) (hla : la ≤ 1000) (hlb : lb ≤ 1000) (h0 : 0 < la) :
    Calls Tryz.prog 114 #[.slice b lb cb, .slice a la ca] w fun e w' => Made w (mixK ws xss (min lb la)).length (mixK ws xss (min lb la)) e w' := by
  obtain ⟨b0, o0, rfl, c0⟩ := ha.rd.cell 0 h0
  have hr0 := ha.rows 0 h0
  have hs0 := ha.short 0 h0
  have HZ := hid hr0.size
  have HL : Hid ((xss[0]?.getD []).length ≤ 1000) := by unfold Hid; rw [hr0.size]; exact hs0
  have HE : Hid (∀ n W, (xss[0]?.getD []).length = n → MixAt w (some ⟨b0, o0, none⟩) la ca (List.replicate n 0) W → Calls Tryz.prog 116 #[.slice b (min lb la) cb, .func (.func 140) #[] #[.pointer (some ⟨w.heap.size + 2, 0, none⟩), .pointer (some ⟨w.heap.size, 0, none⟩)]] W
      fun e w' => e = .returned (.tuple #[]) ∧ MixAt w (some ⟨b0, o0, none⟩) la ca (mixK ws xss (min lb la)) w') := by
    intro n W hn hW
    subst hn
    refine each_any 140 _ b (min lb la) cb (ws.take (min lb la)) W (by omega) (fun k W => MixAt w (some ⟨b0, o0, none⟩) la ca (mixK ws xss k) W) (enters_of Tryz.func140 (by kernel_rfl) rfl) (fun k wr h => (hb.below h.old).cut (Nat.min_le_left _ _)) hW ?_
    intro k wr hk hI
    rw [List.getElem?_take_of_lt hk]
    exact mix1_any w _ la ca k hs xss (mixK ws xss k) (ws[k]?.getD 0) wr ha (by omega) (mixK_len HL.out k) hI
  have r1 := hb.room
  have m1 := hb.most
  have bare := hb.bare
  have r2 := ha.rd.room
  have m2 := ha.rd.most
  have q0 : (0 : Int) < (la : Int) := by omega
  have qn : ((la : Int) == 0) = false := by simp; omega
  rw [Nat.add_zero] at c0
  have c1 := cell_al c0 (.cells #[.slice (some ⟨b0, o0, none⟩) la ca] 83)
  clear ha hb hr0
  generalize hs[0]?.getD (none, 0, 0) = z at *
  obtain ⟨z1, z2, z3⟩ := z
  simp only at c0 c1 hs0 HZ
  have hmk : ∀ W : World, (Instr.makeSlice 99 (.int .i64 (z2 : Int)) (.int .i64 (z2 : Int))).run Tryz.prog W = .ok (.slice (some ⟨W.heap.size, 0, none⟩) z2 z2) (W.alloc (.cells (madeCells #[.int .i64 0] z2) 2)) := fun W => make_ints W z2 (by omega)
  have HF := hid fun W => HE.out z2 W HZ.out
  clear HE HL HZ
  obtain ⟨m, hm⟩ : ∃ m, min lb la = m := ⟨_, rfl⟩
  rw [hm] at HF ⊢
  generalize mixK ws xss m = us at *
  rcases Nat.lt_or_ge la lb with hl | hl
  · obtain rfl : la = m := by omega
    clear hm
    cases b with
    | none => obtain ⟨rfl, rfl⟩ := bare rfl; omega
    | some ad =>
      clear bare
      go_enter Tryz.func114, Tryz.ntmps114
      go_wp2_with fail
      refine (count_any _ _ _ _ hs0).mono ?_
      rintro e w' ⟨rfl, rfl⟩
      go_wp2_with fail
      refine (HF.out _ (MixAt.new _ _ _ _ _ hs0)).mono ?_
      rintro e w' ⟨rfl, h⟩
      obtain ⟨g, c, hv, hO⟩ := h.var
      have cv := cell_of_one hv
      have HO := hid hO
      have HB := hid h.old
      clear h hv hO HF hmk c0 c1
      go_wp2
      go_ret
      exact ⟨_, _, rfl, HO.out, HB.out⟩
  · obtain rfl : lb = m := by omega
    clear hm
    cases b with
    | none =>
      obtain ⟨rfl, rfl⟩ := bare rfl
      clear bare
      go_enter Tryz.func114, Tryz.ntmps114
      go_wp2_with fail
      refine (count_any _ _ _ _ hs0).mono ?_
      rintro e w' ⟨rfl, rfl⟩
      go_wp2_with fail
      refine (HF.out _ (MixAt.new _ _ _ _ _ hs0)).mono ?_
      rintro e w' ⟨rfl, h⟩
      obtain ⟨g, c, hv, hO⟩ := h.var
      have cv := cell_of_one hv
      have HO := hid hO
      have HB := hid h.old
      clear h hv hO HF hmk c0 c1
      go_wp2
      go_ret
      exact ⟨_, _, rfl, HO.out, HB.out⟩
    | some ad =>
      clear bare
      go_enter Tryz.func114, Tryz.ntmps114
      go_wp2_with fail
      refine (count_any _ _ _ _ hs0).mono ?_
      rintro e w' ⟨rfl, rfl⟩
      go_wp2_with fail
      refine (HF.out _ (MixAt.new _ _ _ _ _ hs0)).mono ?_
      rintro e w' ⟨rfl, h⟩
      obtain ⟨g, c, hv, hO⟩ := h.var
      have cv := cell_of_one hv
      have HO := hid hO
      have HB := hid h.old
      clear h hv hO HF hmk c0 c1
      go_wp2
      go_ret
      exact ⟨_, _, rfl, HO.out, HB.out⟩
theorem vmix_any (a b : Option Addr) (la ca lb cb : Nat) (hs : List Hd) (xss : List (List Int)) (ws : List Int) (w : World) (ha : Tbl w a la ca hs xss) (hb : Reads .i64 w b lb cb ws) (hla : la ≤ 1000) (hlb : lb ≤ 1000) (h0 : 0 < la) :
    Calls Tryz.prog 114 #[.slice b lb cb, .slice a la ca] w fun e w' => Gives w (mixK ws xss (min lb la)).length (mixK ws xss (min lb la)) e w' :=
  (vmix_made a b la ca lb cb hs xss ws w ha hb hla hlb h0).mono fun e w' h => h.gives
theorem vmix_none (a b : Option Addr) (ca lb cb : Nat) (w : World) :
    Calls Tryz.prog 114 #[.slice b lb cb, .slice a 0 ca] w fun e w' => Gives w 0 [] e w' := by
  go_enter Tryz.func114, Tryz.ntmps114
  go_wp2
  go_ret
  exact ⟨_, _, rfl, Reads.nil _ _, (Below.refl _ _).alloc (Nat.le_refl _) _⟩
end Go.Proofs.YtdomjdfancpbbaaGreat
namespace Go.Proofs.YtdomjdfancpbbaaGreat
open Go.RowKit
set_option linter.unusedVariables false
set_option maxRecDepth 1000000

theorem rshr_far {p : Int} (p0 : 0 ≤ p) (p1 : p ≤ 131072) (n : Nat) : p / 2 ^ min n 60 = p / 2 ^ n := by
  by_cases h : n ≤ 60
  · rw [Nat.min_eq_left h]
  · rw [lift_far p0 p1 (n := n) (by omega), lift_far p0 p1 (by omega)]
/-- The bit that is tried, if j are left. -/
def kZ : Nat → Int
  | 0 => 0
  | j + 1 => 2 ^ j
theorem kZ_half (j : Nat) {m : Int} (hm : 2 ^ j = m) : m / 2 = kZ j := by
  cases j with
  | zero => rw [← hm]; decide
  | succ j => rw [← hm, Int.pow_succ, kZ]; omega
theorem kZ_bd {j : Nat} (h : j ≤ 32) : 0 ≤ kZ j ∧ kZ j ≤ 2147483648 := by
  cases j with
  | zero => decide
  | succ j => exact ⟨Int.le_of_lt (two_pos j), two_le (n := 31) (by omega)⟩
end Go.Proofs.YtdomjdfancpbbaaGreat
