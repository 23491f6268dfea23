/-
  The texts Softs, Tables, RVecs, RModels, RMTables, SMath, HMath of this proof.
-/
import Derived.Test.YtjgggialnegddaaGreatPr09
import Derived.Test.YtjgggialnegddaaGreatPr04
import Derived.Deep.QuietTactic
import Derived.BigQuiet
set_option linter.unusedVariables false
set_option maxRecDepth 1000000
namespace Go.Proofs.YtjgggialnegddaaGreat
open Go.RowKit
def sumK (ps : List Int) : Nat → Int
 | 0 => 0
 | k + 1 => addZ (sumK ps k) (ps[k]?.getD 0)
def rootZ (zs : List Int) : Int := sqrtZ (addZ (divZ (dotK zs zs zs.length) (fromZ zs.length)) 1)
def normL (zs : List Int) : List Int := zs.map (divZ · (rootZ zs))
def powL (zs : List Int) : List Int := zs.map fun x => expZ (addZ x (-(greatK zs zs.length)))
def softL (zs : List Int) : List Int := (powL zs).map (divZ · (sumK (powL zs) zs.length))
theorem powL_len (zs : List Int) : (powL zs).length = zs.length := by simp [powL]
theorem norm_any (a : Option Addr) (len cap : Nat) (zs : List Int) (w : World) (ha : Reads .i64 w a len cap zs) (hlen : len ≤ 1000) :
  Calls Tryz.prog 200 #[.slice a len cap] w fun e w' => Made w len (normL zs) e w' := by
 have hz := ha.size
 subst hz
 have hD := dot_any a a _ cap _ cap zs zs w ha ha hlen hlen
 rw [Nat.min_self] at hD
 have HR : Hid (sqrtZ (addZ (divZ (dotK zs zs zs.length) (fromZ zs.length)) 1) = rootZ zs) := rfl
 have HE : Hid (∀ w1, Below w.heap.size w w1 → Calls Tryz.prog 225 #[.slice a zs.length cap, .func (.func 226) #[] #[.pointer (some ⟨w1.heap.size, 0, none⟩)]] (w1.alloc (.cells #[.int .i64 (rootZ zs)] 2))
   fun e w' => Made w zs.length (normL zs) e w') := by
  intro w1 hb1
  have hn := SumAt.new w1 (rootZ zs)
  have hsz : w.heap.size ≤ (w1.alloc (.cells #[.int .i64 (rootZ zs)] 2)).heap.size := by have := hb1.size; simp; omega
  refine (madeof_any 226 #[.pointer (some ⟨w1.heap.size, 0, none⟩)] (enters_of Tryz.func226 (by kernel_rfl) rfl) a zs.length cap zs _ ((ha.below hb1).below hn.2) hlen (divZ · (rootZ zs)) fun x wr hb => (norm1_any x (rootZ zs) w1.heap.size wr ((hb.block _ (lt_of_block hn.1)).trans hn.1)).mono fun e w' ⟨h1, h2⟩ => ⟨h1, by rw [h2]; exact Below.refl _ _⟩).mono ?_
  rintro e w' ⟨g, rfl, hO, hb⟩
  exact ⟨g, _, rfl, hO.low hsz, hb1.trans ((hn.2.mono hb1.size).trans (hb.mono hsz))⟩
 clear ha
 go_enter Tryz.func200, Tryz.ntmps200
 go_wp2_with fail
 refine hD.mono ?_
 rintro e w1 ⟨rfl, hb1⟩
 have hE := HE.out w1 hb1
 clear HE hD hb1
 go_wp2_with fail
 refine (count_any _ _ _ _ hlen).mono ?_
 rintro e w' ⟨rfl, rfl⟩
 go_wp2_with fail
 refine (from_any _ _).mono ?_
 rintro e w' ⟨rfl, rfl⟩
 go_wp2_with fail
 refine (div_any _ _ _).mono ?_
 rintro e w' ⟨rfl, rfl⟩
 go_wp2_with fail
 refine (add_any _ _ _).mono ?_
 rintro e w' ⟨rfl, rfl⟩
 go_wp2_with fail
 refine (sqrt_any _ _).mono ?_
 rintro e w' ⟨rfl, rfl⟩
 rw [HR.out]
 go_wp2_with fail
 refine hE.mono ?_
 rintro e w' ⟨g, cap', rfl, hO, hb⟩
 have HO := hid hO
 have HB := hid hb
 clear hO hb hE
 go_wp2
 go_ret
 exact ⟨_, _, rfl, HO.out, HB.out⟩
theorem soft_any (a : Option Addr) (len cap : Nat) (zs : List Int) (w : World) (ha : Reads .i64 w a len cap zs) (hlen : len ≤ 1000) :
  Calls Tryz.prog 209 #[.slice a len cap] w fun e w' => Made w len (softL zs) e w' := by
 have hz := ha.size
 subst hz
 have hG := greatest_any a _ cap zs w ha hlen
 have HE1 : Hid (∀ w1, Below w.heap.size w w1 → Calls Tryz.prog 225 #[.slice a zs.length cap, .func (.func 234) #[] #[.pointer (some ⟨w1.heap.size, 0, none⟩)]] (w1.alloc (.cells #[.int .i64 (greatK zs zs.length)] 2))
   fun e w' => ∃ g, e = .returned (.slice (some ⟨g, 0, none⟩) zs.length zs.length) ∧ OwnK 2 w.heap.size g zs.length zs.length (powL zs) w' ∧ Below w.heap.size w w') := by
  intro w1 hb1
  have hn := SumAt.new w1 (greatK zs zs.length)
  have hgb := greatK_bd zs zs.length
  have hsz : w.heap.size ≤ (w1.alloc (.cells #[.int .i64 (greatK zs zs.length)] 2)).heap.size := by have := hb1.size; simp; omega
  refine (madeof_any 234 #[.pointer (some ⟨w1.heap.size, 0, none⟩)] (enters_of Tryz.func234 (by kernel_rfl) rfl) a zs.length cap zs _ ((ha.below hb1).below hn.2) hlen (fun x => expZ (addZ x (-(greatK zs zs.length)))) fun x wr hb => (soft1_any x _ hgb.1 hgb.2 w1.heap.size wr ((hb.block _ (lt_of_block hn.1)).trans hn.1)).mono fun e w' ⟨h1, h2⟩ => ⟨h1, by rw [h2]; exact Below.refl _ _⟩).mono ?_
  rintro e w' ⟨g, rfl, hO, hb⟩
  exact ⟨g, rfl, hO.low hsz, hb1.trans ((hn.2.mono hb1.size).trans (hb.mono hsz))⟩
 have HE2 : Hid (∀ w2 g, OwnK 2 w.heap.size g zs.length zs.length (powL zs) w2 → Calls Tryz.prog 215 #[.slice (some ⟨g, 0, none⟩) zs.length zs.length, .func (.func 236) #[] #[.pointer (some ⟨w2.heap.size, 0, none⟩)]] (w2.alloc (.cells #[.int .i64 0] 2))
   fun e w' => e = .returned (.tuple #[]) ∧ SumAt w2 w2.heap.size (sumK (powL zs) zs.length) w') := by
  intro w2 g hO
  refine each_any 236 _ _ zs.length zs.length (powL zs) _ hlen (fun k W => SumAt w2 w2.heap.size (sumK (powL zs) k) W) (enters_of Tryz.func236 (by kernel_rfl) rfl) (fun k wr h => hO.reads.below h.2) (SumAt.new w2 0) ?_
  intro k wr hk hi
  exact (soft2_any k _ _ w2.heap.size wr hi.1).mono fun e w' ⟨h1, h2, h3⟩ => ⟨h1, h2, hi.2.trans (h3.to one_le hi.2.size)⟩
 have HE3 : Hid (∀ w2 w3 g, OwnK 2 w.heap.size g zs.length zs.length (powL zs) w2 → Below w.heap.size w w2 → SumAt w2 w2.heap.size (sumK (powL zs) zs.length) w3 → Calls Tryz.prog 225 #[.slice (some ⟨g, 0, none⟩) zs.length zs.length, .func (.func 237) #[] #[.pointer (some ⟨w2.heap.size, 0, none⟩)]] w3
   fun e w' => Made w zs.length (softL zs) e w') := by
  intro w2 w3 g hO hb2 hs
  have h23 : Below w.heap.size w w3 := hb2.trans (hs.2.mono hb2.size)
  refine (madeof_any 237 #[.pointer (some ⟨w2.heap.size, 0, none⟩)] (enters_of Tryz.func237 (by kernel_rfl) rfl) _ zs.length zs.length (powL zs) w3 (hO.reads.below hs.2) hlen (divZ · (sumK (powL zs) zs.length)) fun x wr hb => (soft3_any x _ w2.heap.size wr ((hb.block _ (lt_of_block hs.1)).trans hs.1)).mono fun e w' ⟨h1, h2⟩ => ⟨h1, by rw [h2]; exact Below.refl _ _⟩).mono ?_
  rintro e w' ⟨g', rfl, hO', hb⟩
  exact ⟨g', _, rfl, hO'.low h23.size, h23.trans (hb.mono h23.size)⟩
 clear ha
 go_enter Tryz.func209, Tryz.ntmps209
 go_wp2_with fail
 refine hG.mono ?_
 rintro e w1 ⟨rfl, hb1⟩
 have hE := HE1.out w1 hb1
 clear HE1 hG hb1
 generalize greatK zs zs.length = gr at *
 go_wp2_with fail
 refine hE.mono ?_
 rintro e w2 ⟨g, rfl, hO, hb2⟩
 have hE2 := HE2.out w2 g hO
 have HE4 := hid fun w3 h => HE3.out w2 w3 g hO hb2 h
 clear HE2 HE3 hE hO hb2
 go_wp2_with fail
 refine hE2.mono ?_
 rintro e w3 ⟨rfl, hs⟩
 have hE3 := HE4.out w3 hs
 clear HE4 hE2 hs
 go_wp2_with fail
 refine hE3.mono ?_
 rintro e w' ⟨g, cap', rfl, hO, hb⟩
 have HO := hid hO
 have HB := hid hb
 clear hO hb hE3
 go_wp2
 go_ret
 exact ⟨_, _, rfl, HO.out, HB.out⟩
theorem cell_al {w : World} {p : Addr} {v : Value} (h : w.cell? p = some v) (o : Obj) : (w.alloc o).cell? p = some v :=
 (((Below.refl w.heap.size w).alloc (Nat.le_refl _) o).cell (World.block_lt_of_cell? _ _ h)).trans h
end Go.Proofs.YtjgggialnegddaaGreat
namespace Go.Proofs.YtjgggialnegddaaGreat
open Go.RowKit
theorem count2_any (a : Option Addr) (len cap : Nat) (w : World) (hlen : len ≤ 1000) :
  Calls Tryz.prog 244 #[.slice a len cap] w fun e w' => e = .returned (.int .i64 len) ∧ w' = w := by
 go_enter Tryz.func244, Tryz.ntmps244
 go_wp2
 go_ret
 exact ⟨rfl, rfl⟩
theorem each2_any (fn : Nat) (caps : Array Value) (a : Option Addr) (len cap : Nat) (hs : List Hd) (w : World) (hlen : len ≤ 1000) (I : Nat → World → Prop)
  (hE : ∀ args w, (callFunc fn args).run Tryz.prog w = .ok (.enter fn args) w) (hR : ∀ k wr, I k wr → Rd2 wr a len cap hs) (h0 : I 0 w)
  (hS : ∀ k wr, k < len → I k wr → Calls Tryz.prog fn (#[.int .i64 (k : Int), .slice (hs[k]?.getD (none, 0, 0)).1 (hs[k]?.getD (none, 0, 0)).2.1 (hs[k]?.getD (none, 0, 0)).2.2] ++ caps) wr fun e w' => e = .returned (.tuple #[]) ∧ I (k + 1) w') :
  Calls Tryz.prog 245 #[.slice a len cap, .func (.func fn) #[] caps] w fun e w' => e = .returned (.tuple #[]) ∧ I len w' := by
 have hr0 := hR 0 w h0
 have hroom := hr0.room
 have hmost := hr0.most
 have hbare := hr0.bare
 clear hr0
 have H0 := hid h0
 have HR := hid hR
 have HS := hid hS
 clear h0 hR hS
 go_enter Tryz.func245, Tryz.ntmps245
 cases a with
 | none =>
  obtain ⟨rfl, rfl⟩ := hbare rfl
  go_wp2_with fail
  refine (count2_any _ _ _ _ (by omega)).mono ?_
  rintro e w' ⟨rfl, rfl⟩
  go_wp2_with fail
  go_loopw [11] (fun i wr => ∃ k : Nat, k = 0 ∧ i = .int .i64 k ∧ Hid (I k wr)) (fun i _ => 0 - (intOf i).toNat)
  case atStart => exact ⟨0, rfl, rfl, H0⟩
  case round =>
   obtain ⟨k, rfl, rfl, HI⟩ := hrel
   go_wp2
   go_end0
   exact ⟨rfl, HI.out⟩
 | some ad =>
  clear hbare
  go_wp2_with fail
  refine (count2_any _ _ _ _ (by omega)).mono ?_
  rintro e w' ⟨rfl, rfl⟩
  go_wp2_with fail
  go_loopw [11] (fun i wr => ∃ k : Nat, k ≤ len ∧ i = .int .i64 k ∧ Hid (I k wr)) (fun i _ => len - (intOf i).toNat)
  case atStart => exact ⟨0, Nat.zero_le _, rfl, H0⟩
  case round =>
   obtain ⟨k, hk, rfl, HI⟩ := hrel
   by_cases hlt : k < len
   ·obtain ⟨b, off, hab, hc⟩ := (HR.out k wr HI.out).cell k hlt
    cases hab
    have hC := HS.out k wr hlt HI.out
    generalize hs[k]?.getD (none, 0, 0) = z at *
    obtain ⟨z1, z2, z3⟩ := z
    simp only at hc hC
    go_wp2_with fail
    refine hC.mono ?_
    rintro e w2 ⟨rfl, hI2⟩
    have HI2 := hid hI2
    clear hI2 hC
    go_wp2_with fail
    go_round
    case rel => exact ⟨k + 1, by omega, by go_num, HI2⟩
    case measure => simp [intOf]; omega
   ·obtain rfl : k = len := by omega
    go_wp2
    go_end0
    exact ⟨rfl, HI.out⟩
theorem made2_any (fn : Nat) (caps : Array Value) (hE : ∀ args w, (callFunc fn args).run Tryz.prog w = .ok (.enter fn args) w) (k : Nat) (x : Hd) (y : Int) (Bo Bm base g m : Nat) (us : List Int) (wr : World) (hm : m ≤ 1000)
  (ho : wr.heap[Bo]? = some (.cells #[.func (.func fn) #[] caps] 257 (0, 0))) (hq : wr.heap[Bm]? = some (.cells #[.slice (some ⟨g, 0, none⟩) m m] 131 (0, 0)))
  (hO : OwnK 2 base g m m us wr) (hk : k < m) (hgo : Bo ≠ g) (hgm : Bm ≠ g)
  (hC : Calls Tryz.prog fn (#[.slice x.1 x.2.1 x.2.2] ++ caps) wr.drew fun e w' => e = .returned (.int .i64 y) ∧ Below wr.heap.size wr w') :
  Calls Tryz.prog 246 #[.int .i64 k, .slice x.1 x.2.1 x.2.2, .pointer (some ⟨Bo, 0, none⟩), .pointer (some ⟨Bm, 0, none⟩)] wr fun e w' => e = .returned (.tuple #[]) ∧ OwnK 2 base g m m (us.set k y) w' ∧ But [g] wr w' := by
 obtain ⟨x1, x2, x3⟩ := x
 simp only at hC ⊢
 have cd := cell_of_one ho
 have cq := cell_of_one hq
 have HO := hid hO
 have HK : Hid (∀ W, But [g] wr W → W.cell? ⟨Bo, 0, none⟩ = some (.func (.func fn) #[] caps) ∧ W.cell? ⟨Bm, 0, none⟩ = some (.slice (some ⟨g, 0, none⟩) m m)) :=
  fun W h => ⟨h.cell cd (by simpa using hgo), h.cell cq (by simpa using hgm)⟩
 clear ho hq hO hgo hgm
 go_enter Tryz.func246, Tryz.ntmps246
 go_wp2_with fail
 go_region_held3 (fun W : World => W.cell? ⟨Bo, 0, none⟩ = some (.func (.func fn) #[] caps) ∧ W.cell? ⟨Bm, 0, none⟩ = some (.slice (some ⟨g, 0, none⟩) m m)) (first | exact ⟨cd, cq⟩ | assumption | exact HK.out _ (But.of hB) | exact HK.out _ ((But.of hB).set (p := ⟨g, k, none⟩) (List.mem_singleton.2 rfl) _)) (first | (refine hC.mono ?_; rintro e w2 ⟨rfl, hB⟩; have HO2 := hid (HO.out.stays hB); have ck := HO2.out.cell hk; have fk := HO2.out.frozen k))
 have HS : Hid (OwnK 2 base g m m (us.set k y) (w2.setCell ⟨g, k, none⟩ (.int .i64 y))) := HO2.out.set k y
 have HB : Hid (But [g] wr (w2.setCell ⟨g, k, none⟩ (.int .i64 y))) := (But.of hB).set (p := ⟨g, k, none⟩) (List.mem_singleton.2 rfl) _
 clear HK cd cq HO HO2 ck fk hB hC
 go_wp2
 go_end0
 exact ⟨rfl, HS.out, HB.out⟩
theorem madeof2_any (fn : Nat) (caps : Array Value) (hE : ∀ args w, (callFunc fn args).run Tryz.prog w = .ok (.enter fn args) w) (a : Option Addr) (len cap : Nat) (hs : List Hd) (w : World) (ha : Rd2 w a len cap hs) (hlen : len ≤ 1000) (f : Nat → Int)
  (hC : ∀ k wr, k < len → Below w.heap.size w wr → Calls Tryz.prog fn (#[.slice (hs[k]?.getD (none, 0, 0)).1 (hs[k]?.getD (none, 0, 0)).2.1 (hs[k]?.getD (none, 0, 0)).2.2] ++ caps) wr fun e w' => e = .returned (.int .i64 (f k)) ∧ Below wr.heap.size wr w') :
  Calls Tryz.prog 230 #[.slice a len cap, .func (.func fn) #[] caps] w fun e w' => Made w len (rowK f len) e w' := by
 have HM : Hid (∀ W, MadeAt w fn caps 257 w.heap.size len (List.replicate len 0) W → Calls Tryz.prog 245 #[.slice a len cap, .func (.func 246) #[] #[.pointer (some ⟨w.heap.size, 0, none⟩), .pointer (some ⟨w.heap.size + 2, 0, none⟩)]] W
   fun e w' => e = .returned (.tuple #[]) ∧ MadeAt w fn caps 257 w.heap.size len (rowK f len) w') := by
  intro W h0
  refine (each2_any 246 _ a len cap hs W hlen (fun k W => MadeAt w fn caps 257 w.heap.size len (rowK f k ++ List.replicate (len - k) 0) W) (enters_of Tryz.func246 (by kernel_rfl) rfl) ?_ ?_ ?_).mono ?_
  ·intro k wr hk
   exact ha.below hk.old
  ·exact h0
  ·intro k wr hk hI
   have hdr : Below wr.heap.size wr wr.drew := (Below.refl _ _).drew
   refine (made2_any fn caps hE k _ (f k) w.heap.size (w.heap.size + 2) w.heap.size (w.heap.size + 1) len _ wr hlen hI.fun_ hI.var hI.own hk (by omega) (by omega) ?_).mono ?_
   ·exact (hC k _ hk (hI.old.trans (hdr.mono hI.old.size))).mono fun e w' ⟨h1, h2⟩ => ⟨h1, hdr.trans (h2.mono (Nat.le_refl _))⟩
   ·rintro e w' ⟨h1, h2, h3⟩
    refine ⟨h1, ?_, h3.one hI.fun_ (by simp), h3.one hI.var (by simp), ?_⟩
    ·exact hI.old.trans (h3.to (fun s hs => by rw [List.mem_singleton.1 hs]; omega) hI.old.size)
    ·rw [← rowK_set f hk]; exact h2
  ·rintro e w' ⟨h1, h2⟩
   rw [Nat.sub_self, List.replicate_zero, List.append_nil] at h2
   exact ⟨h1, h2⟩
 have hmk := make_ints (w.alloc (.cells #[.func (.func fn) #[] caps] 257)) len (by omega)
 clear ha hC
 go_enter Tryz.func230, Tryz.ntmps230
 go_wp2_with fail
 refine (count2_any _ _ _ _ hlen).mono ?_
 rintro e w' ⟨rfl, rfl⟩
 go_wp2_with fail
 refine (HM.out _ (MadeAt.new _ _ _ _ _ hlen)).mono ?_
 rintro e w' ⟨rfl, h⟩
 have cv := cell_of_one h.var
 have HO := hid h.own
 have HB := hid h.old
 clear h HM hmk
 go_wp2
 go_ret
 exact ⟨_, _, rfl, HO.out, HB.out⟩
theorem mul1_any (a b : Option Addr) (la ca lb cb : Nat) (xs ys : List Int) (B : Nat) (w : World) (ha : Reads .i64 w a la ca xs) (hb : Reads .i64 w b lb cb ys) (hla : la ≤ 1000) (hlb : lb ≤ 1000)
  (hB : w.heap[B]? = some (.cells #[.slice b lb cb] 131 (0, 0))) :
  Calls Tryz.prog 231 #[.slice a la ca, .pointer (some ⟨B, 0, none⟩)] w fun e w' => e = .returned (.int .i64 (dotK xs ys (min la lb))) ∧ Below w.heap.size w w' := by
 have cs := cell_of_one hB
 have hD := dot_any a b la ca lb cb xs ys w ha hb hla hlb
 clear hB ha hb
 go_enter Tryz.func231, Tryz.ntmps231
 go_wp2_with fail
 refine hD.mono ?_
 rintro e w' ⟨rfl, hb⟩
 have HB := hid hb
 clear hb hD
 go_wp2
 go_ret
 exact ⟨rfl, HB.out⟩
def mulF (xss : List (List Int)) (ys : List Int) (i : Nat) : Int := dotK (xss[i]?.getD []) ys (min (xss[i]?.getD []).length ys.length)
theorem vmul_any (a b : Option Addr) (la ca lb cb : Nat) (hs : List Hd) (xss : List (List Int)) (ys : List Int) (w : World) (ha : Tbl w a la ca hs xss) (hb : Reads .i64 w b lb cb ys) (hla : la ≤ 1000) (hlb : lb ≤ 1000) :
  Calls Tryz.prog 207 #[.slice a la ca, .slice b lb cb] w fun e w' => Made w la (rowK (mulF xss ys) la) e w' := by
 have hbl : Below w.heap.size w (w.alloc (.cells #[.slice b lb cb] 131)) := (Below.refl _ _).alloc (Nat.le_refl _) _
 have hnew := heap_alloc_new w (.cells #[.slice b lb cb] 131)
 have HE := hid (madeof2_any 231 #[.pointer (some ⟨w.heap.size, 0, none⟩)] (enters_of Tryz.func231 (by kernel_rfl) rfl) a la ca hs _ (ha.below hbl).rd hla (mulF xss ys) fun k wr hk hw => by
  have h1 := ((ha.below hbl).below hw).rows k hk
  have h2 := (hb.below hbl).below hw
  refine (mul1_any _ _ _ _ _ _ _ _ w.heap.size wr h1 h2 (ha.short k hk) hlb ((hw.block _ (by simp)).trans hnew)).mono ?_
  rintro e w' ⟨e1, e2⟩
  refine ⟨?_, e2⟩
  rw [e1]
  unfold mulF
  rw [h1.size, h2.size])
 have HS : Hid (w.heap.size ≤ (w.alloc (.cells #[.slice b lb cb] 131)).heap.size) := by unfold Hid; simp
 have HN := hid hbl
 clear hbl ha hb hnew
 go_enter Tryz.func207, Tryz.ntmps207
 go_wp2_with fail
 refine HE.out.mono ?_
 rintro e w' ⟨g, cap, rfl, hO, hb⟩
 have HO := hid (hO.low HS.out)
 have HB := hid (HN.out.trans (hb.mono HS.out))
 clear hO hb HE
 go_wp2
 go_ret
 exact ⟨_, _, rfl, HO.out, HB.out⟩
end Go.Proofs.YtjgggialnegddaaGreat
namespace Go.Proofs.YtjgggialnegddaaGreat
open Go.RowKit
theorem rcut_any (a : Option Addr) (len cap : Nat) (xs : List Int) (w : World) (ha : Reads .i64 w a len cap xs) (hlen : len ≤ 1000) :
  Calls Tryz.prog 140 #[.slice a len cap] w fun e w' => e = .returned (.slice a len cap) ∧ w' = w := by
 have r := ha.room
 have m := ha.most
 cases a with
 | none =>
  obtain ⟨rfl, rfl⟩ := ha.bare rfl
  clear ha
  go_enter Tryz.func140, Tryz.ntmps140
  go_wp2
  go_ret
  exact ⟨rfl, rfl⟩
 | some ad =>
  clear ha
  go_enter Tryz.func140, Tryz.ntmps140
  go_wp2
  go_ret
  exact ⟨rfl, rfl⟩
theorem rboth_any (a b : Option Addr) (la ca lb cb m : Nat) (xs ys : List Int) (w : World) (ha : Reads .i64 w a la ca xs) (hb : Reads .i64 w b lb cb ys) (hla : la ≤ 1000) (hlb : lb ≤ 1000) (hm : min la lb = m) :
  Calls Tryz.prog 98 #[.slice a la ca, .slice b lb cb] w fun e w' => e = .returned (.int .i64 m) ∧ w' = w := by
 have h1 := rcut_any a la ca xs w ha hla
 have h2 := rcut_any b lb cb ys w hb hlb
 clear ha hb
 rcases Nat.lt_or_ge lb la with hl | hl
 ·obtain rfl : lb = m := by omega
  clear hm
  go_enter Tryz.func98, Tryz.ntmps98
  go_wp2_with fail
  refine h1.mono ?_
  rintro e w' ⟨rfl, rfl⟩
  go_wp2_with fail
  refine h2.mono ?_
  rintro e w' ⟨rfl, rfl⟩
  go_wp2
  go_ret
  exact ⟨rfl, rfl⟩
 ·obtain rfl : la = m := by omega
  clear hm
  go_enter Tryz.func98, Tryz.ntmps98
  go_wp2_with fail
  refine h1.mono ?_
  rintro e w' ⟨rfl, rfl⟩
  go_wp2_with fail
  refine h2.mono ?_
  rintro e w' ⟨rfl, rfl⟩
  go_wp2
  go_ret
  exact ⟨rfl, rfl⟩
set_option maxHeartbeats 1000000 in
theorem rvdot_any (a b : Option Addr) (la ca lb cb : Nat) (xs ys : List Int) (w : World) (ha : Reads .i64 w a la ca xs) (hb : Reads .i64 w b lb cb ys) (hla : la ≤ 1000) (hlb : lb ≤ 1000) :
  Calls Tryz.prog 136 #[.slice a la ca, .slice b lb cb] w fun e w' => e = .returned (.int .i64 (dotK xs ys (min la lb))) ∧ Below w.heap.size w w' := by
 obtain ⟨m, hm⟩ : ∃ m, min la lb = m := ⟨_, rfl⟩
 have hma : m ≤ la := by omega
 have hmb : m ≤ lb := by omega
 have HBo := hid fun W (h : Below w.heap.size w W) => rboth_any a b la ca lb cb m xs ys W (ha.below h) (hb.below h) hla hlb hm
 rw [hm]
 have HA := hid ha
 have HB := hid hb
 clear ha hb hm
 go_enter Tryz.func136, Tryz.ntmps136
 go_wp2_with fail
 go_loopw [5, 6] (fun n i W => ∃ k : Nat, k ≤ m ∧ n = .int .i64 (dotK xs ys k) ∧ i = .int .i64 k ∧ Hid (Below w.heap.size w W)) (fun _ i _ => m - (intOf i).toNat)
 case atStart => exact ⟨0, Nat.zero_le _, rfl, rfl, Below.refl _ _⟩
 case round =>
  obtain ⟨k, hk, rfl, rfl, HW⟩ := hrel
  have hBo := HBo.out wr HW.out
  by_cases hlt : k < m
  ·obtain ⟨b1, o1, rfl, c1⟩ := (HA.out.below HW.out).cell k (by omega)
   obtain ⟨b2, o2, rfl, c2⟩ := (HB.out.below HW.out).cell k (by omega)
   have r1 := HA.out.room
   have r2 := HB.out.room
   have m1 := HA.out.most
   have m2 := HB.out.most
   have q1 : (k : Int) < (la : Int) := by omega
   have q2 : (k : Int) < (lb : Int) := by omega
   have q3 : k < la := by omega
   have q4 : k < lb := by omega
   have HE : Hid (addZ (dotK xs ys k) (mulZ (xs[k]?.getD 0) (ys[k]?.getD 0)) = dotK xs ys (k + 1)) := rfl
   clear HA HB HBo
   generalize xs[k]?.getD 0 = x at *
   generalize ys[k]?.getD 0 = y at *
   generalize dotK xs ys k = s at *
   go_wp2_with fail
   refine hBo.mono ?_
   rintro e w' ⟨rfl, rfl⟩
   clear hBo
   go_wp2_with fail
   go_region_held3 (fun W : World => W.cell? ⟨b1, o1 + k, none⟩ = some (.int .i64 x) ∧ W.cell? ⟨b2, o2 + k, none⟩ = some (.int .i64 y)) (first | exact ⟨c1, c2⟩ | assumption) (first | (go_at_call 101; refine (rmul_any _ _ _).mono ?_; rintro e w' ⟨rfl, rfl⟩) | (go_at_call 99; refine (radd_any _ _ _).mono ?_; rintro e w' ⟨rfl, rfl⟩))
   go_wp2_with fail
   go_round
   case rel => exact ⟨k + 1, by omega, by rw [HE.out], by go_num, HW.out.drew⟩
   case measure => simp [intOf]; omega
  ·obtain rfl : k = m := by omega
   clear HA HB HBo
   go_wp2_with fail
   refine hBo.mono ?_
   rintro e w' ⟨rfl, rfl⟩
   clear hBo
   go_wp2
   go_ret
   exact ⟨rfl, HW.out⟩
def OwnG (w : World) (n : Nat) (xs : List Int) (e : Ending) (w' : World) : Prop := ∃ v, e = .returned v ∧ w'.ownsRow w.heap.size 2 1 v n (xs.map (Value.int .i64)) ∧ Below w.heap.size w w'
theorem OwnG.gives {w w' : World} {n : Nat} {xs : List Int} {e : Ending} (h : OwnG w n xs e w') : Gives w n xs e w' := by
 obtain ⟨v, rfl, h1, h2⟩ := h
 exact gives_own h1 h2
set_option maxHeartbeats 1000000 in
theorem rvadd_own (a b : Option Addr) (la ca lb cb : Nat) (xs ys : List Int) (w : World) (ha : Reads .i64 w a la ca xs) (hb : Reads .i64 w b lb cb ys) (hla : la ≤ 1000) (hlb : lb ≤ 1000) :
  Calls Tryz.prog 71 #[.slice a la ca, .slice b lb cb] w fun e w' => OwnG w (min la lb) (pairK addZ xs ys (min la lb)) e w' := by
 obtain ⟨i0, hi, hz0, hz1, hz2⟩ := info_parts Tryz.info2
 obtain ⟨m, hm⟩ : ∃ m, min la lb = m := ⟨_, rfl⟩
 have hma : m ≤ la := by omega
 have hmb : m ≤ lb := by omega
 have HBo := hid fun W (h : Below w.heap.size w W) => rboth_any a b la ca lb cb m xs ys W (ha.below h) (hb.below h) hla hlb hm
 rw [hm]
 have HA := hid ha
 have HB := hid hb
 clear ha hb hm
 go_enter Tryz.func71, Tryz.ntmps71
 go_wp2_with fail
 go_loopw [5, 6] (fun u i W => ∃ k : Nat, k ≤ m ∧ i = .int .i64 k ∧ Hid (W.ownsRow w.heap.size 2 1 u k ((pairK addZ xs ys k).map (Value.int .i64))) ∧ Hid (Below w.heap.size w W)) (fun _ i _ => m - (intOf i).toNat)
 case atStart => exact ⟨0, Nat.zero_le _, rfl, World.ownsRow_nil _ _ _ _, Below.refl _ _⟩
 case round =>
  obtain ⟨k, hk, rfl, HO, HW⟩ := hrel
  have hBo := HBo.out wr HW.out
  by_cases hlt : k < m
  ·obtain ⟨b1, o1, rfl, c1⟩ := (HA.out.below HW.out).cell k (by omega)
   obtain ⟨b2, o2, rfl, c2⟩ := (HB.out.below HW.out).cell k (by omega)
   have HK : Hid (∀ W, Below w.heap.size w W → W.cell? ⟨b1, o1 + k, none⟩ = some (.int .i64 (xs[k]?.getD 0)) ∧ W.cell? ⟨b2, o2 + k, none⟩ = some (.int .i64 (ys[k]?.getD 0))) := by
    intro W h
    obtain ⟨b, o, e, c⟩ := (HA.out.below h).cell k (by omega)
    obtain ⟨b', o', e', c'⟩ := (HB.out.below h).cell k (by omega)
    cases e
    cases e'
    exact ⟨c, c'⟩
   have r1 := HA.out.room
   have r2 := HB.out.room
   have m1 := HA.out.most
   have m2 := HB.out.most
   have q1 : (k : Int) < (la : Int) := by omega
   have q2 : (k : Int) < (lb : Int) := by omega
   have q3 : k < la := by omega
   have q4 : k < lb := by omega
   have HE : Hid (pairK addZ xs ys k ++ [addZ (xs[k]?.getD 0) (ys[k]?.getD 0)] = pairK addZ xs ys (k + 1)) := rfl
   have HS : Hid (w.heap.size ≤ wr.heap.size) := HW.out.size
   clear HA HB HBo
   generalize xs[k]?.getD 0 = x at *
   generalize ys[k]?.getD 0 = y at *
   generalize pairK addZ xs ys k = us at *
   go_wp2_with fail
   refine hBo.mono ?_
   rintro e w' ⟨rfl, rfl⟩
   clear hBo
   rename World => wr
   go_wp2_with fail
   go_region_held3 (fun W : World => W.cell? ⟨b1, o1 + k, none⟩ = some (.int .i64 x) ∧ W.cell? ⟨b2, o2 + k, none⟩ = some (.int .i64 y)) (first | exact ⟨c1, c2⟩ | assumption | exact HK.out _ (HW.out.alloc HS.out _) | exact HK.out _ (HW.out.drew.alloc HS.out _) | exact HK.out _ HB3.out) (first | (go_at_call 99; refine (radd_any _ _ _).mono ?_; rintro e w' ⟨rfl, rfl⟩) | (refine step_append_reads (by rfl) 25 (by rfl) (.tmp 14) (.tmp 24) 131 (by rfl) w.heap.size 2 i0 (.int .i64 0) 8 Tryz.underlying131 hi hz0 hz1 hz2 rfl .i64 _ k us (by rfl) (HO.out.alloc _) _ 1 1 [addZ x y] (by rfl) (Reads.oned _ _ _) (by omega) (by omega) (by omega) (Nat.le_trans HS.out (by simp)) ?_; intro v' w3 hO3 hb3; have HB3 := hid ((HW.out.alloc HS.out _).drew.trans hb3)))
   have HO3 : Hid (w3.ownsRow w.heap.size 2 1 v' (k + 1) ((pairK addZ xs ys (k + 1)).map (Value.int .i64))) := by rw [← HE.out]; exact hO3
   clear hO3 hb3 HK c1 c2
   go_wp2_with fail
   go_round
   case rel => exact ⟨k + 1, by omega, by go_num, HO3, HB3⟩
   case measure => simp [intOf]; omega
  ·obtain rfl : k = m := by omega
   clear HA HB HBo
   go_wp2_with fail
   refine hBo.mono ?_
   rintro e w' ⟨rfl, rfl⟩
   clear hBo
   go_wp2
   go_ret
   exact ⟨_, rfl, HO.out, HW.out⟩
theorem rvadd_any (a b : Option Addr) (la ca lb cb : Nat) (xs ys : List Int) (w : World) (ha : Reads .i64 w a la ca xs) (hb : Reads .i64 w b lb cb ys) (hla : la ≤ 1000) (hlb : lb ≤ 1000) :
  Calls Tryz.prog 71 #[.slice a la ca, .slice b lb cb] w fun e w' => Gives w (min la lb) (pairK addZ xs ys (min la lb)) e w' := (rvadd_own a b la ca lb cb xs ys w ha hb hla hlb).mono fun e w' h => h.gives
end Go.Proofs.YtjgggialnegddaaGreat
namespace Go.Proofs.YtjgggialnegddaaGreat
open Go.RowKit
def GivesO (w : World) (n : Nat) (xs : List Int) (e : Ending) (w' : World) : Prop := ∃ v, e = .returned v ∧ w'.ownsRow w.heap.size 2 1 v n (xs.map (Value.int .i64)) ∧ Below w.heap.size w w'
theorem GivesO.gives {w w' : World} {n : Nat} {xs : List Int} {e : Ending} (h : GivesO w n xs e w') : Gives w n xs e w' := by
 obtain ⟨v, rfl, h1, h2⟩ := h
 exact gives_own h1 h2
theorem own_base {base base' e size n : Nat} {v : Value} {xs : List Value} {w : World} (h : w.ownsRow base e size v n xs) (hb : base' ≤ base) : w.ownsRow base' e size v n xs := by
 refine ⟨h.1, ?_⟩
 rcases h.2 with h' | ⟨g', c, cur, hv, hB, rest⟩
 ·exact .inl h'
 ·exact .inr ⟨g', c, cur, hv, Nat.le_trans hb hB, rest⟩
set_option maxHeartbeats 1000000 in
theorem rrow_any (s v l tt h t r : Int) (D : Nat) (w : World) (t0 : 0 ≤ t) (t1 : t ≤ 1000) (r0 : 0 ≤ r) (r1 : r ≤ 1000) (hD : D ≤ 16) :
  Calls Tryz.prog 100 #[.agg (CfV ⟨s, v, D, l, tt, h⟩), .int .i64 t, .int .i64 r] w fun e w' => GivesO w D (rowK (fun k => weightZ s t r k) D) e w' := by
 obtain ⟨i0, hi, hz0, hz1, hz2⟩ := info_parts Tryz.info2
 obtain ⟨f, hf⟩ : ∃ f : Nat → Int, f = fun (k : Nat) => weightZ s t r k := ⟨_, rfl⟩
 rw [← hf]
 have HC : Hid (∀ (k : Nat) (W : World), k < D → Calls Tryz.prog 142 #[.int .u64 s, .int .i64 t, .int .i64 r, .int .i64 k] W fun e w' => e = .returned (.int .i64 (f k)) ∧ Below W.heap.size W w') := by
  intro k W hk
  rw [hf]
  exact rweight_any s t r k W t0 t1 r0 r1 (by omega) (by omega)
 have HK := hid fun (W : World) (hb : Below (w.heap.size + 1) (w.alloc (.cells (CfV ⟨s, v, D, l, tt, h⟩) 24)) W) => Cf_cells ((hb.block w.heap.size (by omega)).trans (heap_alloc_new w _))
 have HB0 : Hid (∀ W, Below (w.heap.size + 1) (w.alloc (.cells (CfV ⟨s, v, D, l, tt, h⟩) 24)) W → w.heap.size + 1 ≤ W.heap.size ∧ Below w.heap.size w W) := fun W hb =>
  ⟨by have := hb.size; simpa using this, ((Below.refl _ _).alloc (Nat.le_refl _) _).trans (hb.mono (by omega))⟩
 clear hf
 unfold CfV at HK HB0 ⊢
 simp only at HK HB0 ⊢
 go_enter Tryz.func100, Tryz.ntmps100
 go_wp2_with fail
 go_loopw [7, 8] (fun u i W => ∃ k : Nat, k ≤ D ∧ i = .int .i64 k ∧ Hid (W.ownsRow (w.heap.size + 1) 2 1 u k ((rowK f k).map (Value.int .i64))) ∧ Hid (Below (w.heap.size + 1) (w.alloc (.cells #[.int .u64 s, .int .i64 v, .int .i64 D, .int .i64 l, .int .i64 tt, .int .i64 h] 24)) W)) (fun _ i _ => D - (intOf i).toNat)
 case atStart => exact ⟨0, Nat.zero_le _, rfl, World.ownsRow_nil _ _ _ _, Below.refl _ _⟩
 case round =>
  obtain ⟨k, hk, rfl, HO, HW⟩ := hrel
  obtain ⟨c0, c1, c2, c3, c4, c5⟩ := HK.out wr HW.out
  by_cases hlt : k < D
  ·have hC := HC.out k wr hlt
   have q1 : (k : Int) < (D : Int) := by omega
   have HE := hid (rowK_snoc f k)
   clear HC HK
   generalize f k = x at *
   generalize rowK f k = us at *
   go_wp2_with fail
   refine hC.mono ?_
   rintro e w2 ⟨rfl, hb2⟩
   have HO2 := hid (own_below HO.out hb2)
   have HW2 := hid (HW.out.trans (hb2.mono (HB0.out _ HW.out).1))
   have HS : Hid (w.heap.size + 1 ≤ w2.heap.size) := (HB0.out _ HW2.out).1
   clear hb2 hC c0 c1 c2 c3 c4 c5 HO HW
   go_wp2_with (at_builtin; refine append_any _ rfl (.tmp 15) (.tmp 22) 131 rfl (w.heap.size + 1) 2 i0 (.int .i64 0) 8 Tryz.underlying131 hi hz0 hz1 hz2 rfl .i64 _ k us rfl (HO2.out.alloc _) _ 1 1 [x] rfl (Reads.one _ _ _) (by omega) (by omega) (Nat.le_trans HS.out (by simp)) ?_; intro v' w3 hO3 hb3)
   have HB3 := hid ((HW2.out.alloc HS.out _).trans hb3)
   have HO3 : Hid (w3.ownsRow (w.heap.size + 1) 2 1 v' (k + 1) ((rowK f (k + 1)).map (Value.int .i64))) := by rw [← HE.out]; exact hO3
   clear hO3 hb3 HE HO2 HW2 HS
   go_wp2_with fail
   go_round
   case rel => exact ⟨k + 1, by omega, by go_num, HO3, HB3⟩
   case measure => simp [intOf]; omega
  ·obtain rfl : k = D := by omega
   clear HC HK
   go_wp2
   go_ret
   exact ⟨_, rfl, own_base HO.out (by omega), (HB0.out _ HW.out).2⟩
theorem rtoken_no (c : Cf) (t : Int) (w : World) (hb : t < 0 ∨ c.vocab ≤ t) :
  Calls Tryz.prog 72 #[.agg (CfV c), .int .i64 t] w fun e w' => e = .returned (.slice none 0 0) ∧ Below w.heap.size w w' := by
 obtain ⟨s, v, d, l, tt, h⟩ := c
 unfold CfV
 simp only at hb ⊢
 have HB : Hid (Below w.heap.size w (w.alloc (.cells #[.int .u64 s, .int .i64 v, .int .i64 d, .int .i64 l, .int .i64 tt, .int .i64 h] 24))) := (Below.refl _ _).alloc (Nat.le_refl _) _
 by_cases h1 : t < 0
 ·clear hb
  go_enter Tryz.func72, Tryz.ntmps72
  go_wp2
  go_ret
  exact ⟨rfl, HB.out⟩
 ·have h2 : v ≤ t := by omega
  clear hb
  go_enter Tryz.func72, Tryz.ntmps72
  go_wp2
  go_ret
  exact ⟨rfl, HB.out⟩
theorem rtoken_yes (s v l tt h t : Int) (D : Nat) (w : World) (t0 : 0 ≤ t) (t1 : t < v) (v1 : v ≤ 64) (hD : D ≤ 16) :
  Calls Tryz.prog 72 #[.agg (CfV ⟨s, v, D, l, tt, h⟩), .int .i64 t] w fun e w' => GivesO w D (rowK (fun k => weightZ s 0 t k) D) e w' := by
 have hC := rrow_any s v l tt h 0 t D (w.alloc (.cells (CfV ⟨s, v, D, l, tt, h⟩) 24)) (by omega) (by omega) t0 (by omega) hD
 have HB : Hid (Below w.heap.size w (w.alloc (.cells (CfV ⟨s, v, D, l, tt, h⟩) 24))) := (Below.refl _ _).alloc (Nat.le_refl _) _
 generalize rowK (fun k => weightZ s 0 t k) D = row at *
 unfold CfV at *
 simp only at hC HB ⊢
 go_enter Tryz.func72, Tryz.ntmps72
 go_wp2_with fail
 refine hC.mono ?_
 rintro e w1 ⟨v', rfl, hO, hb⟩
 have HO := hid (own_base hO HB.out.size)
 have HB1 := hid (HB.out.trans (hb.mono HB.out.size))
 clear hO hb hC HB
 go_wp2
 go_ret
 exact ⟨_, rfl, HO.out, HB1.out⟩
theorem rplace_no (c : Cf) (t : Int) (w : World) (hb : t < 0 ∨ 256 ≤ t) :
  Calls Tryz.prog 73 #[.agg (CfV c), .int .i64 t] w fun e w' => e = .returned (.slice none 0 0) ∧ Below w.heap.size w w' := by
 obtain ⟨s, v, d, l, tt, h⟩ := c
 unfold CfV
 simp only at hb ⊢
 have HB : Hid (Below w.heap.size w (w.alloc (.cells #[.int .u64 s, .int .i64 v, .int .i64 d, .int .i64 l, .int .i64 tt, .int .i64 h] 24))) := (Below.refl _ _).alloc (Nat.le_refl _) _
 by_cases h1 : t < 0
 ·clear hb
  go_enter Tryz.func73, Tryz.ntmps73
  go_wp2
  go_ret
  exact ⟨rfl, HB.out⟩
 ·have h2 : 256 ≤ t := by omega
  clear hb
  go_enter Tryz.func73, Tryz.ntmps73
  go_wp2
  go_ret
  exact ⟨rfl, HB.out⟩
theorem ownK_of {base n : Nat} {v : Value} {xs : List Int} {w : World} (h : w.ownsRow base 2 1 v n (xs.map (Value.int .i64))) (hn : 1 ≤ n) : ∃ g c, v = .slice (some ⟨g, 0, none⟩) n c ∧ OwnK 2 base g n c xs w := by
 rcases id h.2 with ⟨rfl, rfl⟩ | ⟨g, cap, cur, rfl, rest⟩
 ·omega
 ·exact ⟨g, cap, rfl, h⟩
theorem rplace_yes (s v l tt h t : Int) (D : Nat) (w : World) (t0 : 0 ≤ t) (t1 : t < 256) (hD : D ≤ 16) (hD1 : 1 ≤ D) :
  Calls Tryz.prog 73 #[.agg (CfV ⟨s, v, D, l, tt, h⟩), .int .i64 t] w fun e w' => Gives w D (rowK (fun k => mulZ (weightZ s 1 t k) 16384) D) e w' := by
 have hC := rrow_any s v l tt h 1 t D (w.alloc (.cells (CfV ⟨s, v, D, l, tt, h⟩) 24)) (by omega) (by omega) t0 (by omega) hD
 have HB : Hid (Below w.heap.size w (w.alloc (.cells (CfV ⟨s, v, D, l, tt, h⟩) 24))) := (Below.refl _ _).alloc (Nat.le_refl _) _
 obtain ⟨f, hf⟩ : ∃ f : Nat → Int, f = fun (k : Nat) => weightZ s 1 t k := ⟨_, rfl⟩
 rw [← hf] at hC
 have e2 : (fun k : Nat => mulZ (weightZ s 1 t k) 16384) = fun k => mulZ (f k) 16384 := by rw [hf]
 rw [e2]
 clear hf e2
 unfold CfV at *
 simp only at hC HB ⊢
 go_enter Tryz.func73, Tryz.ntmps73
 go_wp2_with fail
 refine hC.mono ?_
 rintro e w1 ⟨v', rfl, hO, hb⟩
 obtain ⟨g, cap, rfl, hO1⟩ := ownK_of (own_base hO HB.out.size) hD1
 have HO : Hid (OwnK 2 w.heap.size g D cap (overK f (fun k => mulZ (f k) 16384) 0 D) w1) := by rw [overK_0]; exact hO1
 have HB1 := hid (HB.out.trans (hb.mono HB.out.size))
 have hcap := hO1.reads.room
 have hcap2 := hO1.reads.most
 clear hO hO1 hb hC HB
 go_wp2_with fail
 go_loopw [6] (fun i W => ∃ k : Nat, k ≤ D ∧ i = .int .i64 k ∧ Hid (OwnK 2 w.heap.size g D cap (overK f (fun k => mulZ (f k) 16384) k D) W) ∧ Hid (Below w.heap.size w W)) (fun i _ => D - (intOf i).toNat)
 case atStart => exact ⟨0, Nat.zero_le _, rfl, HO, HB1⟩
 case round =>
  obtain ⟨k, hk, rfl, HOk, HW⟩ := hrel
  clear HO HB1
  by_cases hlt : k < D
  ·have ck := HOk.out.cell hlt
   rw [overK_at _ _ hlt] at ck
   have fk := HOk.out.frozen k
   have HO2 : Hid (OwnK 2 w.heap.size g D cap (overK f (fun k => mulZ (f k) 16384) (k + 1) D) (wr.setCell ⟨g, k, none⟩ (.int .i64 (mulZ (f k) 16384)))) := by
    have := HOk.out.set k (mulZ (f k) 16384)
    rw [overK_set f (fun k => mulZ (f k) 16384) hlt] at this
    exact this
   have HB2 := hid (HW.out.setCell (p := ⟨g, k, none⟩) HOk.out.base (.int .i64 (mulZ (f k) 16384)))
   have q1 : (k : Int) < (D : Int) := by omega
   clear HOk HW
   go_wp2_with fail
   refine (rmul_any _ _ _).mono ?_
   rintro e w' ⟨rfl, rfl⟩
   go_wp2_with fail
   go_round
   case rel => exact ⟨k + 1, by omega, by go_num, HO2, HB2⟩
   case measure => simp [intOf]; omega
  ·obtain rfl : k = D := by omega
   have HO3 : Hid (OwnK 2 w.heap.size g k cap (rowK (fun k => mulZ (f k) 16384) k) wr) := by
    have := HOk.out
    rw [overK_all] at this
    exact this
   clear HOk
   go_wp2
   go_ret
   exact ⟨_, _, rfl, HO3.out.reads, HW.out⟩
theorem rrows_no (c : Cf) (la wh : Int) (w : World) (hb : (la < 0 ∨ c.layers ≤ la) ∨ (wh < 0 ∨ 5 < wh)) :
  Calls Tryz.prog 132 #[.agg (CfV c), .int .i64 la, .int .i64 wh] w fun e w' => e = .returned (.slice none 0 0) ∧ Below w.heap.size w w' := by
 obtain ⟨s, v, d, l, tt, h⟩ := c
 unfold CfV
 simp only at hb ⊢
 have HB : Hid (Below w.heap.size w (w.alloc (.cells #[.int .u64 s, .int .i64 v, .int .i64 d, .int .i64 l, .int .i64 tt, .int .i64 h] 24))) := (Below.refl _ _).alloc (Nat.le_refl _) _
 by_cases h1 : la < 0
 ·clear hb
  go_enter Tryz.func132, Tryz.ntmps132
  go_wp2
  go_ret
  exact ⟨rfl, HB.out⟩
 ·by_cases h2 : l ≤ la
  ·clear hb
   go_enter Tryz.func132, Tryz.ntmps132
   go_wp2
   go_ret
   exact ⟨rfl, HB.out⟩
  ·by_cases h3 : wh < 0
   ·clear hb
    go_enter Tryz.func132, Tryz.ntmps132
    go_wp2
    go_ret
    exact ⟨rfl, HB.out⟩
   ·have h4 : 5 < wh := by omega
    clear hb
    go_enter Tryz.func132, Tryz.ntmps132
    go_wp2
    go_ret
    exact ⟨rfl, HB.out⟩
end Go.Proofs.YtjgggialnegddaaGreat
namespace Go.Proofs.YtjgggialnegddaaGreat
open Go.RowKit
def GivesT (w : World) (n : Nat) (ls : List (List Int)) (e : Ending) (w' : World) : Prop := ∃ a c hs, e = .returned (.slice a n c) ∧ Tbl w' a n c hs ls ∧ Below w.heap.size w w'
theorem MadeT.gives {w w' : World} {n m : Nat} {F : Nat → List Int} {e : Ending} (h : MadeT w n m F e w') (hm : m ≤ 1000) : GivesT w n (tblK F n) e w' := by
 obtain ⟨G, hs, rfl, hU⟩ := h
 exact ⟨_, _, hs, rfl, hU.tbl hm, hU.old⟩
set_option maxHeartbeats 1000000 in
theorem rrows_yes (s v l tt h la wh : Int) (D : Nat) (w : World) (l0 : 0 ≤ la) (l1 : la < l) (l2 : l ≤ 4) (k0 : 0 ≤ wh) (k1 : wh ≤ 5) (hD : D ≤ 16) :
  Calls Tryz.prog 132 #[.agg (CfV ⟨s, v, D, l, tt, h⟩), .int .i64 la, .int .i64 wh] w fun e w' => GivesT w D (tblK (fun r => rowK (fun k => weightZ s (2 + 6 * la + wh) r k) D) D) e w' := by
 obtain ⟨i0, hi, hz0, hz1, hz2⟩ := info_parts Tryz.infoS
 obtain ⟨F, hF⟩ : ∃ F : Nat → List Int, F = fun (r : Nat) => rowK (fun k => weightZ s (2 + 6 * la + wh) r k) D := ⟨_, rfl⟩
 rw [← hF]
 have HC : Hid (∀ (r : Nat) (W : World), r < D → Calls Tryz.prog 100 #[.agg (CfV ⟨s, v, D, l, tt, h⟩), .int .i64 (2 + 6 * la + wh), .int .i64 r] W fun e w' => GivesO W D (F r) e w') := by
  intro r W hr
  rw [hF]
  exact rrow_any s v l tt h _ r D W (by omega) (by omega) (by omega) (by omega) hD
 have HK := hid fun (W : World) (hb : Below (w.heap.size + 1) (w.alloc (.cells (CfV ⟨s, v, D, l, tt, h⟩) 24)) W) => Cf_cells ((hb.block w.heap.size (by omega)).trans (heap_alloc_new w _))
 have HB0 : Hid (∀ W, Below (w.heap.size + 1) (w.alloc (.cells (CfV ⟨s, v, D, l, tt, h⟩) 24)) W → w.heap.size + 1 ≤ W.heap.size ∧ Below w.heap.size w W) := fun W hb =>
  ⟨by have := hb.size; simpa using this, ((Below.refl _ _).alloc (Nat.le_refl _) _).trans (hb.mono (by omega))⟩
 clear hF
 unfold CfV at HK HB0 HC ⊢
 simp only at HK HB0 HC ⊢
 go_enter Tryz.func132, Tryz.ntmps132
 go_wp2_with fail
 go_loopw [7, 8] (fun u i W => ∃ (k : Nat) (hs : List Hd), k ≤ D ∧ i = .int .i64 k ∧ Hid (RowsI W (w.heap.size + 1) u k hs (tblK F k)) ∧ Hid (Below (w.heap.size + 1) (w.alloc (.cells #[.int .u64 s, .int .i64 v, .int .i64 D, .int .i64 l, .int .i64 tt, .int .i64 h] 24)) W)) (fun _ i _ => D - (intOf i).toNat)
 case atStart => exact ⟨0, [], Nat.zero_le _, rfl, RowsI.nil _ _, Below.refl _ _⟩
 case round =>
  obtain ⟨k, hs, hk, rfl, HO, HW⟩ := hrel
  obtain ⟨c0, c1, c2, c3, c4, c5⟩ := HK.out wr HW.out
  by_cases hlt : k < D
  ·have hC := HC.out k wr hlt
   have q1 : (k : Int) < (D : Int) := by omega
   have HE := hid (tblK_snoc F k)
   clear HC HK
   generalize F k = x at *
   generalize tblK F k = us at *
   go_wp2_with fail
   refine hC.mono ?_
   rintro e w2 ⟨v2, rfl, hO2, hb2⟩
   have HO2 := hid (HO.out.below hb2)
   have HW2 := hid (HW.out.trans (hb2.mono (HB0.out _ HW.out).1))
   have HS : Hid (w.heap.size + 1 ≤ w2.heap.size) := (HB0.out _ HW2.out).1
   obtain ⟨a2, n2, rfl, hr2⟩ := Reads.own (k := .i64) hO2
   have HR2 := hid hr2
   have HI2 := hid (BlI.own hO2)
   clear hb2 hC c0 c1 c2 c3 c4 c5 HO HW hO2 hr2
   have hal : Hid (∀ o, Below w2.heap.size w2 (w2.alloc o)) := fun o => (Below.refl _ _).alloc (Nat.le_refl _) _
   go_wp2_with (at_builtin; refine append_rowI _ rfl (.tmp 31) (.tmp 40) 132 rfl (w.heap.size + 1) i0 Tryz.underlying132 hi hz0 hz1 hz2 _ k hs us rfl (HO2.out.below (hal.out _)) (by omega) w2.heap.size (a2, D, n2) x rfl (by simp) (HR2.out.below (hal.out _)) (HI2.out.below (hal.out _)) (by simp only; omega) (Nat.le_trans HS.out (by simp)) ?_; intro v' w3 hO3 hb3)
   have HB3 := hid ((HW2.out.alloc HS.out _).trans hb3)
   have HO3 : Hid (RowsI w3 (w.heap.size + 1) v' (k + 1) (hs ++ [(a2, D, n2)]) (tblK F (k + 1))) := by rw [← HE.out]; exact hO3
   clear hO3 hb3 HE HO2 HW2 HS HR2 HI2 hal
   go_wp2_with fail
   go_round
   case rel => exact ⟨k + 1, _, by omega, by go_num, HO3, HB3⟩
   case measure => simp [intOf]; omega
  ·obtain rfl : k = D := by omega
   obtain ⟨ra, rc, rfl, hT⟩ := HO.out.tbl
   have HT := hid hT
   clear HC HK hT HO
   go_wp2
   go_ret
   exact ⟨_, _, hs, rfl, HT.out, (HB0.out _ HW.out).2⟩
end Go.Proofs.YtjgggialnegddaaGreat
namespace Go.Proofs.YtjgggialnegddaaGreat
open Go.RowKit
theorem div_zero : divZ 0 0 = 0 := by decide
theorem div_val {p S : Int} (p0 : 0 ≤ p) (hp : p ≤ S) (hS : S ≤ 2147483647) (h0 : 0 < S) : divZ p S = p * 65536 / S ∧ 0 ≤ p * 65536 / S ∧ p * 65536 / S ≤ 65536 := by
 have e1 : wi S = S := wi_in (by omega) hS
 have e2 : wi p = p := wi_in (by omega) (by omega)
 have b0 : 0 ≤ p * 65536 / S := Int.ediv_nonneg (by omega) (by omega)
 have b1 : p * 65536 / S ≤ 65536 := by
  have h : p * 65536 / S ≤ S * 65536 / S := Int.ediv_le_ediv h0 (by omega)
  rw [Int.mul_comm S 65536, Int.mul_ediv_cancel _ (by omega)] at h
  exact h
 refine ⟨?_, b0, b1⟩
 unfold divZ byZ
 rw [e1, e2, if_neg (by omega), if_neg (by omega), wi_in (by omega) (by omega)]
theorem div_bd {p S : Int} (p0 : 0 ≤ p) (hp : p ≤ S) (hS : S ≤ 2147483647) : 0 ≤ divZ p S ∧ divZ p S ≤ 65536 := by
 by_cases h0 : 0 < S
 ·obtain ⟨e, b⟩ := div_val p0 hp hS h0
  rw [e]; exact b
 ·obtain rfl : p = 0 := by omega
  obtain rfl : S = 0 := by omega
  rw [div_zero]; omega
theorem addZ_pos {s p : Int} (s0 : 0 ≤ s) (s1 : s ≤ 2147483647) (p0 : 0 ≤ p) (p1 : p ≤ 2147483647) : s ≤ addZ s p ∧ p ≤ addZ s p ∧ addZ s p ≤ 2147483647 := by
 unfold addZ
 rw [wi_in (by omega) s1, wi_in (by omega) p1]
 refine ⟨?_, ?_, wi_1 _⟩
 ·have := wi_le (show s ≤ s + p by omega)
  rwa [wi_in (n := s) (by omega) s1] at this
 ·have := wi_le (show p ≤ s + p by omega)
  rwa [wi_in (n := p) (by omega) p1] at this
def Pos (ps : List Int) : Prop := ∀ i : Nat, 0 ≤ ps[i]?.getD 0 ∧ ps[i]?.getD 0 ≤ 2147483647
theorem sumK_bd {ps : List Int} (h : Pos ps) (k : Nat) : 0 ≤ sumK ps k ∧ sumK ps k ≤ 2147483647 := by
 induction k with
 | zero => simp [sumK]
 | succ k ih =>
  have := addZ_pos ih.1 ih.2 (h k).1 (h k).2
  simp only [sumK]
  omega
theorem sumK_ge {ps : List Int} (h : Pos ps) (k : Nat) : ∀ i, i < k → ps[i]?.getD 0 ≤ sumK ps k := by
 induction k with
 | zero => intro i hi; omega
 | succ k ih =>
  intro i hi
  have b := sumK_bd h k
  have := addZ_pos b.1 b.2 (h k).1 (h k).2
  simp only [sumK]
  rcases (by omega : i < k ∨ i = k) with h1 | rfl
  ·have := ih i h1; omega
  ·omega
theorem powL_pos (zs : List Int) : Pos (powL zs) := by
 intro i
 rcases Nat.lt_or_ge i zs.length with h | h
 ·unfold powL
  rw [List.getElem?_map, List.getElem?_eq_getElem h]
  exact expZ_bd _
 ·rw [List.getElem?_eq_none (by rw [powL_len]; exact h)]
  simp
theorem softL_at {zs : List Int} {i : Nat} (h : i < zs.length) : (softL zs)[i]?.getD 0 = divZ ((powL zs)[i]?.getD 0) (sumK (powL zs) zs.length) := by
 unfold softL
 rw [List.getElem?_map, List.getElem?_eq_getElem (by rw [powL_len]; exact h)]
 rfl
theorem softL_bd (zs : List Int) (i : Nat) : 0 ≤ (softL zs)[i]?.getD 0 ∧ (softL zs)[i]?.getD 0 ≤ 65536 := by
 rcases Nat.lt_or_ge i zs.length with h | h
 ·rw [softL_at h]
  exact div_bd (powL_pos zs i).1 (sumK_ge (powL_pos zs) _ i h) (sumK_bd (powL_pos zs) _).2
 ·rw [List.getElem?_eq_none (by unfold softL; rw [List.length_map, powL_len]; exact h)]
  simp
theorem powL_at {zs : List Int} {i : Nat} (h : i < zs.length) : (powL zs)[i]?.getD 0 = expZ (addZ (zs[i]?.getD 0) (-(greatK zs zs.length))) := by
 unfold powL
 rw [List.getElem?_map, List.getElem?_eq_getElem h]
 rfl
end Go.Proofs.YtjgggialnegddaaGreat
namespace Go.Proofs.YtjgggialnegddaaGreat
open Go.RowKit
abbrev Mk := Int × Int
def ltM (a b : Mk) : Prop := a.2 < b.2 ∨ (a.2 = b.2 ∧ b.1 < a.1)
def leM (a b : Mk) : Prop := ¬ ltM b a
theorem leM_refl (a : Mk) : leM a a := by unfold leM ltM; omega
theorem leM_trans {a b c : Mk} (h : leM a b) (k : leM b c) : leM a c := by unfold leM ltM at *; omega
theorem leM_of_lt {a b : Mk} (h : ltM a b) : leM a b := by unfold leM; unfold ltM at *; omega
theorem leM_anti {a b : Mk} (h : leM a b) (k : leM b a) : a = b := by
 unfold leM ltM at *
 exact Prod.ext (by omega) (by omega)
theorem leM_total (a b : Mk) : leM a b ∨ leM b a := by unfold leM ltM; omega
def gx (ms : List Mk) (i : Nat) : Mk := ms[i]?.getD (0, 0)
theorem gx_of {ms : List Mk} {i : Nat} (h : i < ms.length) : gx ms i = ms[i] := by simp [gx, h]
def swp (ms : List Mk) (i j : Nat) : List Mk := (ms.set i (gx ms j)).set j (gx ms i)
theorem swp_len (ms : List Mk) (i j : Nat) : (swp ms i j).length = ms.length := by simp [swp]
theorem gx_swp {ms : List Mk} {i j : Nat} (hi : i < ms.length) (hj : j < ms.length) (k : Nat) : gx (swp ms i j) k = if k = j then gx ms i else if k = i then gx ms j else gx ms k := by
 unfold gx swp
 rw [List.getElem?_set, List.getElem?_set]
 by_cases h1 : k = j
 ·subst h1; simp [hj]; rfl
 ·rw [if_neg (fun e => h1 e.symm), if_neg h1]
  by_cases h2 : k = i
  ·subst h2; simp [hi]; rfl
  ·rw [if_neg (fun e => h2 e.symm), if_neg h2]
theorem swp_perm {ms : List Mk} {i j : Nat} (hi : i < ms.length) (hj : j < ms.length) : (swp ms i j).Perm ms := by
 unfold swp
 rw [gx_of hi, gx_of hj]
 exact List.set_set_perm hi hj
def HeapN (ms : List Mk) (n : Nat) : Prop := ∀ i, 0 < i → i < n → leM (gx ms ((i - 1) / 2)) (gx ms i)
def UpAt (ms : List Mk) (n j : Nat) : Prop := (∀ i, 0 < i → i < n → i ≠ j → leM (gx ms ((i - 1) / 2)) (gx ms i)) ∧ (0 < j → ∀ i, 0 < i → i < n → (i - 1) / 2 = j → leM (gx ms ((j - 1) / 2)) (gx ms i))
theorem UpAt.done {ms : List Mk} {n j : Nat} (h : UpAt ms n j) (hj : 0 < j → ¬ ltM (gx ms j) (gx ms ((j - 1) / 2))) : HeapN ms n := by
 intro i h0 hn
 by_cases e : i = j
 ·subst e; exact hj h0
 ·exact h.1 i h0 hn e
theorem UpAt.step {ms : List Mk} {n j : Nat} (h : UpAt ms n j) (h0 : 0 < j) (hj : j < n) (hn : n ≤ ms.length) (hl : ltM (gx ms j) (gx ms ((j - 1) / 2))) : UpAt (swp ms ((j - 1) / 2) j) n ((j - 1) / 2) := by
 obtain ⟨p, hp⟩ : ∃ p, (j - 1) / 2 = p := ⟨_, rfl⟩
 rw [hp] at hl ⊢
 have hG := gx_swp (ms := ms) (i := p) (j := j) (by omega) (by omega)
 have hlj := leM_of_lt hl
 constructor
 ·intro i i0 hi hip
  rw [hG, hG]
  by_cases e1 : i = j
  ·subst e1
   rw [hp, if_pos rfl, if_neg (by omega), if_pos rfl]
   exact hlj
  ·rw [if_neg e1, if_neg hip]
   have hx := h.1 i i0 hi e1
   by_cases e2 : (i - 1) / 2 = j
   ·rw [if_pos e2]
    have := h.2 h0 i i0 hi e2
    rwa [hp] at this
   ·rw [if_neg e2]
    by_cases e3 : (i - 1) / 2 = p
    ·rw [if_pos e3]
     rw [e3] at hx
     exact leM_trans hlj hx
    ·rw [if_neg e3]; exact hx
 ·intro p0 i i0 hi hip
  have hpp := h.1 p p0 (by omega) (by omega)
  rw [hG, hG, if_neg (by omega), if_neg (by omega)]
  by_cases e1 : i = j
  ·rw [if_pos e1]; exact hpp
  ·rw [if_neg e1, if_neg (by omega)]
   have hx := h.1 i i0 hi e1
   rw [hip] at hx
   exact leM_trans hpp hx
def DownAt (ms : List Mk) (n c : Nat) : Prop := (∀ i, 0 < i → i < n → (i - 1) / 2 ≠ c → leM (gx ms ((i - 1) / 2)) (gx ms i)) ∧ (0 < c → ∀ i, 0 < i → i < n → (i - 1) / 2 = c → leM (gx ms ((c - 1) / 2)) (gx ms i))
theorem DownAt.done {ms : List Mk} {n c : Nat} (h : DownAt ms n c) (hc : ∀ i, 0 < i → i < n → (i - 1) / 2 = c → leM (gx ms c) (gx ms i)) : HeapN ms n := by
 intro i h0 hn
 by_cases e : (i - 1) / 2 = c
 ·rw [e]; exact hc i h0 hn e
 ·exact h.1 i h0 hn e
theorem DownAt.step {ms : List Mk} {n c j : Nat} (h : DownAt ms n c) (h0 : 0 < j) (hj : j < n) (hn : n ≤ ms.length) (hjc : (j - 1) / 2 = c) (hm : ∀ i, 0 < i → i < n → (i - 1) / 2 = c → leM (gx ms j) (gx ms i)) (hl : ltM (gx ms j) (gx ms c)) : DownAt (swp ms c j) n j := by
 have hG := gx_swp (ms := ms) (i := c) (j := j) (by omega) (by omega)
 have hlj := leM_of_lt hl
 constructor
 ·intro i i0 hi hip
  rw [hG, hG, if_neg hip]
  by_cases e1 : i = j
  ·subst e1
   rw [if_pos hjc, if_pos rfl]
   exact hlj
  ·rw [if_neg e1]
   by_cases e2 : i = c
   ·subst e2
    rw [if_neg (by omega), if_pos rfl]
    exact h.2 i0 j h0 hj hjc
   ·rw [if_neg e2]
    by_cases e3 : (i - 1) / 2 = c
    ·rw [if_pos e3]; exact hm i i0 hi e3
    ·rw [if_neg e3]; exact h.1 i i0 hi e3
 ·intro _ i i0 hi hij
  rw [hG, hG, hjc, if_neg (by omega), if_pos rfl, if_neg (by omega), if_neg (by omega)]
  have := h.1 i i0 hi (by omega)
  rwa [hij] at this
theorem HeapN.least {ms : List Mk} {n : Nat} (h : HeapN ms n) : ∀ i, i < n → leM (gx ms 0) (gx ms i) := by
 intro i
 induction i using Nat.strongRecOn with
 | ind i ih =>
  intro hi
  by_cases h0 : i = 0
  ·subst h0; exact leM_refl _
  ·exact leM_trans (ih ((i - 1) / 2) (by omega) (by omega)) (h i (by omega) hi)
theorem HeapN.cut {ms : List Mk} {n : Nat} (h : HeapN ms n) (hn : n + 1 ≤ ms.length) (h' : HeapN ms (n + 1)) : DownAt (swp ms 0 n) n 0 := by
 have hG := gx_swp (ms := ms) (i := 0) (j := n) (by omega) (by omega)
 refine ⟨fun i i0 hi hp => ?_, fun h => absurd h (by omega)⟩
 rw [hG, hG, if_neg (by omega), if_neg hp, if_neg (by omega), if_neg (by omega)]
 exact h' i i0 (by omega)
theorem gx_app {ms : List Mk} {x : Mk} {i : Nat} (h : i < ms.length) : gx (ms ++ [x]) i = gx ms i := by simp [gx, List.getElem?_append_left h]
theorem HeapN.push {ms : List Mk} (h : HeapN ms ms.length) (x : Mk) : UpAt (ms ++ [x]) (ms.length + 1) ms.length := by
 refine ⟨fun i i0 hi hp => ?_, fun h0 i i0 hi hp => absurd hp (by omega)⟩
 rw [gx_app (by omega), gx_app (by omega)]
 exact h i i0 (by omega)
theorem gx_take {ms : List Mk} {n i : Nat} (h : i < n) : gx (ms.take n) i = gx ms i := by simp [gx, List.getElem?_take_of_lt h]
theorem HeapN.take {ms : List Mk} {n : Nat} (h : HeapN ms n) : HeapN (ms.take n) n := by
 intro i h0 hn
 rw [gx_take (by omega), gx_take hn]
 exact h i h0 hn
end Go.Proofs.YtjgggialnegddaaGreat
