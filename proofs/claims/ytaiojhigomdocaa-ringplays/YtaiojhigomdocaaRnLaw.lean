/-
  What the statements of stage 16 call besides: loads, alive.
-/
import Derived.Test.YtaiojhigomdocaaRnPick2
namespace Go.Proofs.Ytaiojhigomdocaa
open Go.RowKit Go.Maps Go.Shelf Go.Sort
set_option linter.unusedVariables false
set_option maxRecDepth 1000000

theorem ordL_all {W : World} {B : Nat} {s : Int} {e M : Nat} {v : Value} {L : List Int} {P : List (Int × Int)} (h : RnAt W B s e M v L P) {x y : Int} : y ∈ ordL s P x ↔ y ∈ L := by
  refine ⟨fun hy => ordL_sub h hy, fun hy => ?_⟩
  unfold ordL
  rw [frs_mem, List.mem_map]
  refine ⟨(atZ (deriveZ s [y]) ((0 : Nat) : Int), y), rot_mem.2 (h.perm.mem_iff.2 ?_), rfl⟩
  rw [List.mem_flatMap]
  refine ⟨y, hy, ?_⟩
  unfold ptsOf
  rw [List.mem_map]
  exact ⟨0, List.mem_range.2 (by have := h.each.1; omega), rfl⟩
theorem ordL_perm {W : World} {B : Nat} {s : Int} {e M : Nat} {v : Value} {L : List Int} {P : List (Int × Int)} (h : RnAt W B s e M v L P) (x : Int) : (ordL s P x).Perm L := by
  obtain ⟨_, _, _, _, hnd, _⟩ := id h.map
  exact (List.perm_ext_iff_of_nodup (frs_nodup _) hnd).2 fun y => ordL_all h
theorem LdN.below {W W' : World} {B m : Nat} {f : Int → Int} (h : LdN W B m f) (hb : RowKit.Below W.heap.size W W') : LdN W' B m f := by
  obtain ⟨D, ho, h3⟩ := h
  have hlt := ho.lt
  obtain ⟨es, clock, h1, h2⟩ := ho
  exact ⟨D, ⟨es, clock, (hb.block _ hlt).trans h1, h2⟩, h3⟩
set_option maxHeartbeats 4000000 in
theorem loads_any (a : Option Addr) (len cap : Nat) (ks ns : List Int) (W : World) (h : Lds W a len cap ks ns) :
    Calls Try.prog 10 #[.slice a len cap] W fun r w' => r = .returned (.map (some W.heap.size)) ∧ Hid ((∃ f, LdAt w' W.heap.size f) ∧ RowKit.Below W.heap.size W w') := by
  have r1 := h.room
  have m1 := h.most
  obtain ⟨m, Hm⟩ : ∃ m, Hid (min len 100 = m) := ⟨_, rfl⟩
  have hml : m ≤ len ∧ m ≤ 100 := by have := Hm.out; omega
  have hA : (if (100 : Int) < (len : Int) then 100 else (len : Int)) = (m : Int) := by have := Hm.out; split <;> omega
  have hB : (if (len : Int) < (100 : Int) then (len : Int) else 100) = (m : Int) := by have := Hm.out; split <;> omega
  have hC : (if (100 : Nat) < len then (100 : Int) else (len : Int)) = (m : Int) := by have := Hm.out; split <;> omega
  have hD : (if len < 100 then (len : Int) else (100 : Int)) = (m : Int) := by have := Hm.out; split <;> omega
  have hE : min (len : Int) 100 = (m : Int) := by have := Hm.out; omega
  have hmc : m ≤ cap := by omega
  have hmm := @run_makeMap Try.prog
  have HCl : Hid (∀ W' : World, RowKit.Below W.heap.size W W' → ∀ i, i < len → ∃ b off x c, a = some ⟨b, off, none⟩ ∧ W'.cell? ⟨b, off + i * 2, none⟩ = some (.int .u64 x) ∧ W'.cell? ⟨b, off + i * 2 + 1, none⟩ = some (.int .i64 c) ∧ isU x) := fun W' hb i hi => by
    obtain ⟨b, off, e, h1, h2⟩ := h.cell i hi
    exact ⟨b, off, _, _, e, (hb.cell (World.block_lt_of_cell? _ _ h1)).trans h1, (hb.cell (World.block_lt_of_cell? _ _ h2)).trans h2, h.wk i hi⟩
  have HN0 : Hid (LdN (W.alloc (.map #[] 0)) W.heap.size 0 (fun _ => 0) ∧ RowKit.Below W.heap.size W (W.alloc (.map #[] 0))) := ⟨LdN.new W, (RowKit.Below.refl _ _).alloc (Nat.le_refl _) _⟩
  obtain ⟨g, Hg⟩ : ∃ g, Hid (W.heap.size = g) := ⟨_, rfl⟩
  rw [Hg.out] at HN0
  clear h Hm
  go_enter Try.func10, Try.ntmps10
  go_wp2_with fail
  rw [Hg.out]
  go_loopw [13] (fun z W' => ∃ (k : Nat) (f : Int → Int), k ≤ m ∧ z = .int .i64 k ∧ Hid (LdN W' g k f ∧ RowKit.Below g W W')) (fun z _ => m - (intOf z).toNat)
  case atStart => exact ⟨0, _, by omega, rfl, HN0⟩
  case round =>
  obtain ⟨k, f, hk, rfl, HI⟩ := hrel
  rename World => w1
  clear HN0
  by_cases hkm : k < m
  · have g1 : (k : Int) < (m : Int) := by omega
    obtain ⟨b, off, x, c, rfl, h1, h2, hx⟩ := HCl.out w1 (by rw [Hg.out]; exact HI.out.2) k (by omega)
    have hal : RowKit.Below w1.heap.size w1 (w1.alloc (.cells #[.int .u64 x, .int .i64 c] 62)) := (RowKit.Below.refl _ _).alloc (Nat.le_refl _) _
    obtain ⟨w2, hst, hld, hfb⟩ := (HI.out.1.below hal).store (by omega) hx c
    have HN : Hid (LdN w2 g (k + 1) (fun y => if y = x then c else f y) ∧ RowKit.Below g W w2) := by
      have hs := HI.out.2.size
      refine ⟨hld, (HI.out.2.trans (hal.mono (by rw [← Hg.out]; exact hs))).trans (hfb.to (fun j hj => by rw [show j = g from hj]; exact Nat.le_refl _) ?_)⟩
      rw [← Hg.out]
      have := hal.size
      omega
    have bk : (k : Int) < (m : Int) := g1
    clear hld hfb hal HI hx
    go_wp2_with fail
    go_round
    case rel => exact ⟨k + 1, _, by omega, by go_num, HN⟩
    case measure => simp [intOf]; omega
  · have g1 : ¬ (k : Int) < (m : Int) := by omega
    have HF : Hid ((∃ f, LdAt w1 g f) ∧ RowKit.Below g W w1) := ⟨⟨f, HI.out.1.at (by omega)⟩, HI.out.2⟩
    clear HI
    go_wp2_with fail
    go_ret
    exact ⟨by rw [Hg.out]; rfl, by rw [Hg.out]; exact HF⟩
theorem alive_bound {f : Int → Int} {a b : Int} {L : List Int} (hp : [a, b].Perm L) (ha : f a = 10) (hb : f b = 0) : bndZ f 100 L = 6 := by
  have hl : L.length = 2 := by have := hp.length_eq; simpa using this.symm
  unfold bndZ
  rw [if_neg (by omega), ← sumZ_perm hp, hl]
  simp only [sumZ, ha, hb]
  decide
set_option maxHeartbeats 8000000 in
theorem alive16_any (W : World) : Calls Try.prog 9 #[] W fun r w' => r = .returned (.bool true) ∧ Hid (RowKit.Below W.heap.size W w') := by
  have hN := rnew_yes 1 4 W ⟨by omega, by omega⟩ ⟨by omega, by omega⟩
  have hmm := @run_makeMap Try.prog
  go_enter Try.func9, Try.ntmps9
  go_wp2_with fail
  refine hN.mono ?_
  rintro r w1 ⟨rfl, H1⟩
  have hA1 := add_any H1.out.1 (x := 5) ⟨by omega, by omega⟩
  have e1 : radd [] 5 = (0, [5]) := by decide
  rw [e1] at hA1
  have HB1 := hid H1.out.2
  have HM1 : Hid (∀ k, rnF (W.heap.size + 1) W.heap.size (.slice none 0 0) k → W.heap.size ≤ k) := by
    rintro k (rfl | rfl | h)
    · omega
    · omega
    · cases h
  clear hN H1
  go_wp2_with fail
  refine hA1.mono ?_
  rintro r w2 ⟨rfl, H2⟩
  obtain ⟨v2, P2, h2, hf2, hk2⟩ := H2.out
  have HB2 : Hid (RowKit.Below W.heap.size W w2) := HB1.out.trans (hf2.to HM1.out HB1.out.size)
  have HM2 : Hid (∀ k, rnF (W.heap.size + 1) W.heap.size v2 k → W.heap.size ≤ k) := by
    rintro k (rfl | rfl | h)
    · omega
    · omega
    · rcases hk2 k h with h | h
      · cases h
      · have := HB1.out.size; omega
  have hA2 := add_any h2 (x := 6) ⟨by omega, by omega⟩
  have e2 : radd [5] 6 = (0, [6, 5]) := by decide
  rw [e2] at hA2
  clear hA1 H2 h2 hf2 hk2 HB1 HM1
  go_wp2_with fail
  refine hA2.mono ?_
  rintro r w3 ⟨rfl, H3⟩
  obtain ⟨v3, P3, h3, hf3, hk3⟩ := H3.out
  have HB3 : Hid (RowKit.Below W.heap.size W w3) := HB2.out.trans (hf3.to HM2.out HB2.out.size)
  have hO := order_any h3 9
  have HH3 := hid h3
  clear hA2 H3 h3 hf3 hk3 HB2 HM2
  obtain ⟨l, Hl⟩ : ∃ l, Hid (ordL 1 P3 9 = l) := ⟨_, rfl⟩
  have HP : Hid (l.Perm [6, 5]) := by rw [← Hl.out]; exact ordL_perm HH3.out 9
  rw [Hl.out] at hO
  obtain ⟨a, b, rfl⟩ : ∃ a b, l = [a, b] := by
    have := HP.out.length_eq
    match l, this with
    | [a, b], _ => exact ⟨a, b, rfl⟩
  have HU : Hid (isU a ∧ isU b ∧ a ≠ b) := by
    have ha := HP.out.mem_iff.1 (show a ∈ [a, b] by simp)
    have hb := HP.out.mem_iff.1 (show b ∈ [a, b] by simp)
    have hnd := HP.out.nodup_iff.2 (by decide)
    simp at ha hb hnd
    refine ⟨?_, ?_, hnd⟩
    · rcases ha with rfl | rfl <;> exact ⟨by omega, by omega⟩
    · rcases hb with rfl | rfl <;> exact ⟨by omega, by omega⟩
  go_wp2_with fail
  refine hO.mono ?_
  rintro r w4 ⟨u, rfl, H4⟩
  clear hO
  have HB4 : Hid (RowKit.Below W.heap.size W w4) := HB3.out.trans (H4.out.2.mono HB3.out.size)
  have HH4 := hid (HH3.out.below H4.out.2)
  obtain ⟨ao, cap, rfl, hr⟩ := Reads.own (k := .u64) H4.out.1
  have HR4 := hid hr
  obtain ⟨g, off, rfl, ca⟩ := hr.cell 0 (by simp)
  obtain ⟨g', off', hgg, cb⟩ := hr.cell 1 (by simp)
  obtain ⟨rfl, rfl⟩ : g = g' ∧ off = off' := by simpa using hgg
  have ca' : w4.cell? ⟨g, off, none⟩ = some (.int .u64 a) := ca
  have cb' : w4.cell? ⟨g, off + 1, none⟩ = some (.int .u64 b) := cb
  have hal : RowKit.Below w4.heap.size w4 (w4.alloc (.map #[] 0)) := (RowKit.Below.refl _ _).alloc (Nat.le_refl _) _
  have caM : (w4.alloc (.map #[] 0)).cell? ⟨g, off, none⟩ = some (.int .u64 a) := (hal.cell (World.block_lt_of_cell? _ _ ca')).trans ca'
  obtain ⟨w5, hst, hld, hfb⟩ := (LdN.new w4).store (by omega) HU.out.1 10
  obtain ⟨f, Hf⟩ : ∃ f : Int → Int, Hid ((fun y => if y = a then (10 : Int) else (fun _ => (0 : Int)) y) = f ∧ f a = 10 ∧ f b = 0) := ⟨_, rfl, by simp, by simp [HU.out.2.2.symm]⟩
  rw [Hf.out.1] at hld
  have hb5 : RowKit.Below w4.heap.size w4 w5 := hal.trans (hfb.to (fun j hj => by rw [show j = w4.heap.size from hj]; exact Nat.le_refl _) (by simp))
  have hP := pick_any (HH4.out.below hb5) (hld.at (by omega)) 9 100
  rw [Hl.out, alive_bound HP.out Hf.out.2.1 Hf.out.2.2] at hP
  have hpz : pickZ f 6 [a, b] = (b, 0) := by
    have ea : cntZ (f a) = 10 := by rw [Hf.out.2.1]; decide
    have eb : cntZ (f b) = 0 := by rw [Hf.out.2.2]; decide
    simp [pickZ, List.find?, ea, eb]
  rw [hpz] at hP
  have HH5 := hid (HH4.out.below hb5)
  have HB5 : Hid (RowKit.Below W.heap.size W w5) := HB4.out.trans (hb5.mono HB4.out.size)
  have HR5 := hid (HR4.out.below hb5)
  clear hr ca cb HH3 HB3 H4 hgg hpz hld hfb hal hb5 HH4 HB4 HR4
  go_wp2_with fail
  refine hP.mono ?_
  rintro r w6 ⟨rfl, H6⟩
  clear hP
  have HB6 : Hid (RowKit.Below W.heap.size W w6) := HB5.out.trans (H6.out.mono HB5.out.size)
  have hNd := nodes_any (HH5.out.below H6.out)
  obtain ⟨g2, off2, hg2, cb6⟩ := (HR5.out.below H6.out).cell 1 (by simp)
  obtain ⟨rfl, rfl⟩ : g = g2 ∧ off = off2 := by simpa using hg2
  have cb6' : w6.cell? ⟨g, off + 1, none⟩ = some (.int .u64 b) := cb6
  clear HR5 H6 cb6 hg2 HH5 HB5
  go_wp2_with fail
  refine hNd.mono ?_
  rintro r w7 ⟨u7, rfl, H7⟩
  obtain ⟨a7, cap7, rfl, h7⟩ := Reads.own (k := .u64) H7.out.1
  have HB7 : Hid (RowKit.Below W.heap.size W w7) := HB6.out.trans (H7.out.2.mono HB6.out.size)
  clear hNd h7 H7
  go_wp2_with fail
  go_ret
  exact ⟨rfl, HB7⟩
end Go.Proofs.Ytaiojhigomdocaa
