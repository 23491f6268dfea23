/-
  Contracts: Marks and Next, of the program and of the document.
-/
import Derived.Test.YtpllffekebkacaaSaBest
import Derived.Test.YtpllffekebkacaaRSa
import Derived.Test.YtpllffekebkacaaAsks
namespace Go.Proofs.Ytpllffekebkacaa
open Go.RowKit
set_option linter.unusedVariables false
set_option maxRecDepth 1000000

/-- A token's mark. -/
def markZ (c : Cf) (zs : List Int) (t : Nat) : Int := dotK (normL zs) (tokL c t) (min zs.length (tokL c t).length)
theorem normL_len (zs : List Int) : (normL zs).length = zs.length := by simp [normL]

theorem cf_field1 (s v d l tt h : Int) (W : World) : (Instr.field 32 (.agg #[.int .u64 s, .int .i64 v, .int .i64 d, .int .i64 l, .int .i64 tt, .int .i64 h]) 1).run Try.prog W = .ok (.int .i64 v) W := by kernel_rfl
set_option maxHeartbeats 1000000 in
theorem marks_g (p : Option Addr) (c : Cf) (V : Nat) (a : Option Addr) (len cap : Nat) (zs : List Int) (w : World) (hp : MdAt w p c) (hV : c.vocab = V) (hV64 : V ≤ 64) (hm : 0 < V → mayB c = true) (ha : Reads .i64 w a len cap zs) (hlen : len ≤ 1000) :
    Calls Try.prog 14 #[.pointer p, .slice a len cap] w fun e w' => Made w V (rowK (markZ c zs) V) e w' := by
  have hmk : ∀ W : World, (Instr.makeSlice 22 (.int .i64 (V : Int)) (.int .i64 (V : Int))).run Try.prog W = .ok (.slice (some ⟨W.heap.size, 0, none⟩) V V) (W.alloc (.cells (madeCells #[.int .i64 0] V) 2)) := fun W => make_ints W V (by omega)
  have hz := ha.size
  have hN := norm_any a len cap zs w ha hlen
  have HC := hid fun W (hb : Below w.heap.size w W) => config_any p c W (hp.below hb)
  have HT := hid fun (t : Nat) (ht : t < V) W (hb : Below w.heap.size w W) => token_g p c t W (hp.below hb) (hm (by omega))
  have HT16 := hid fun (t : Nat) (ht : t < V) => tokL_len (hm (by omega)) t
  have HM : Hid (∀ t : Nat, markZ c zs t = dotK (normL zs) (tokL c t) (min len (tokL c t).length)) := fun t => by rw [← hz]; rfl
  clear ha hp hm
  generalize normL zs = ns at *
  obtain ⟨f, hf⟩ : ∃ f : Nat → Int, f = markZ c zs := ⟨_, rfl⟩
  rw [← hf] at HM ⊢
  obtain ⟨F, hF⟩ : ∃ F : Nat → List Int, F = fun t => tokL c (t : Nat) := ⟨_, rfl⟩
  have hFt : ∀ t : Nat, tokL c (t : Nat) = F t := fun t => by rw [hF]
  simp only [hFt] at HT HT16 HM
  clear hf hF hFt
  obtain ⟨s, v, d, l, tt, h⟩ := c
  simp only at hV
  subst hV
  unfold CfV at HC
  simp only at HC
  have hfd := cf_field1 s (V : Int) d l tt h
  go_enter Try.func14, Try.ntmps14
  go_wp2_with fail
  refine hN.mono ?_
  rintro e w1 ⟨gn, cn, rfl, hO, hb⟩
  have HN := hid hO.reads
  have HB := hid hb
  clear hN hO hb
  go_wp2_with fail
  refine (HC.out _ HB.out).mono ?_
  rintro e w2 ⟨rfl, hb⟩
  replace HN := hid (HN.out.below hb)
  replace HB := hid (HB.out.trans (hb.mono HB.out.size))
  clear hb HC
  have HO0 : Hid (OwnK 2 w2.heap.size w2.heap.size V V (rowK f 0 ++ List.replicate (V - 0) 0) (w2.alloc (.cells (madeCells #[.int .i64 0] V) 2))) := own_made 2 w2 V (by omega)
  have HV0 : Hid (Below w2.heap.size w2 (w2.alloc (.cells (madeCells #[.int .i64 0] V) 2))) := (Below.refl _ _).alloc (Nat.le_refl _) _
  go_wp2_with fail
  clear hmk
  go_loopw [16] (fun i W => ∃ k : Nat, k ≤ V ∧ i = .int .i64 k ∧ Hid (OwnK 2 w2.heap.size w2.heap.size V V (rowK f k ++ List.replicate (V - k) 0) W) ∧ Hid (Below w2.heap.size w2 W)) (fun i _ => V - (intOf i).toNat)
  case atStart => exact ⟨0, Nat.zero_le _, rfl, HO0, HV0⟩
  case round =>
    obtain ⟨k, hk, rfl, HO, HW⟩ := hrel
    clear HO0 HV0
    rename World => wr
    by_cases hlt : k < V
    · have hT := HT.out k hlt wr (HB.out.trans (HW.out.mono HB.out.size))
      have h16 := HT16.out k hlt
      have HE := HM.out k
      have HSet := hid (rowK_set f hlt)
      have q1 : (k : Int) < (V : Int) := by omega
      clear HT HT16 HM
      generalize F k = ts at *
      go_wp2_with fail
      refine hT.mono ?_
      rintro e w3 ⟨u, rfl, hO3, hb⟩
      obtain ⟨at_, ct, rfl, hrt⟩ := Reads.own (k := .i64) hO3
      have HN3 := hid ((HN.out.below HW.out).below hb)
      replace HO := hid (HO.out.stays hb)
      replace HW := hid (HW.out.trans (hb.mono HW.out.size))
      have hD := dot_any (some ⟨gn, 0, none⟩) at_ len cn _ ct ns ts w3 HN3.out hrt hlen (by omega)
      rw [← HE] at hD
      clear hT hO3 hb hrt HN3
      go_wp2_with fail
      refine hD.mono ?_
      rintro e w4 ⟨rfl, hb⟩
      replace HO := hid (HO.out.stays hb)
      replace HW := hid (HW.out.trans (hb.mono HW.out.size))
      have ck := HO.out.cell hlt
      have fk := HO.out.frozen k
      have HO5 : Hid (OwnK 2 w2.heap.size w2.heap.size V V (rowK f (k + 1) ++ List.replicate (V - (k + 1)) 0) (w4.setCell ⟨w2.heap.size, k, none⟩ (.int .i64 (f k)))) := by
        rw [← HSet.out]; exact HO.out.set k (f k)
      have HW5 := hid (HW.out.setCell (p := ⟨w2.heap.size, k, none⟩) (Nat.le_refl _) (.int .i64 (f k)))
      clear hD hb HO HW HE HSet
      generalize f k = y at *
      go_wp2_with fail
      go_round
      case rel => exact ⟨k + 1, by omega, by go_num, HO5, HW5⟩
      case measure => simp [intOf]; omega
    · obtain rfl : k = V := by omega
      have hO := HO.out
      rw [Nat.sub_self] at hO
      have HO5 : Hid (OwnK 2 w.heap.size w2.heap.size k k (rowK f k) wr) := by unfold Hid; simpa using hO.low HB.out.size
      have HW5 := hid (HB.out.trans (HW.out.mono HB.out.size))
      clear HO hO HW HB HT HT16 HM HN
      go_wp2
      go_ret
      exact ⟨_, _, rfl, HO5.out, HW5.out⟩
theorem marks_any (p : Option Addr) (c : Cf) (a : Option Addr) (len cap : Nat) (zs : List Int) (w : World) (hp : MdAt w p c) (hm : mayB c = true) (ha : Reads .i64 w a len cap zs) (hlen : len ≤ 1000) :
    Calls Try.prog 14 #[.pointer p, .slice a len cap] w fun e w' => Made w c.vocab.toNat (rowK (markZ c zs) c.vocab.toNat) e w' := by
  have := may_parts hm
  exact marks_g p c c.vocab.toNat a len cap zs w hp (by omega) (by omega) (fun _ => hm) ha hlen
theorem marks_nil (w : World) : Calls Try.prog 14 #[.pointer none, .slice none 0 0] w fun e w' => ∃ a c, e = .returned (.slice a 0 c) ∧ Below w.heap.size w w' :=
  (marks_g none ⟨0, 0, 0, 0, 0, 0⟩ 0 none 0 0 [] w (.inl ⟨rfl, rfl⟩) rfl (by omega) (fun h => absurd h (by omega)) (Reads.nil _ _) (by omega)).mono fun e w' ⟨g, c, h1, h2, h3⟩ => ⟨_, _, h1, h3⟩

set_option maxHeartbeats 1000000 in
theorem rmarks_any (c : Cf) (a : Option Addr) (len cap : Nat) (zs : List Int) (w : World) (hm : mayB c = true) (ha : Reads .i64 w a len cap zs) (hlen : len ≤ 1000) :
    Calls Try.prog 15 #[.agg (CfV c), .slice a len cap] w fun e w' => GivesO w c.vocab.toNat (rowK (markZ c zs) c.vocab.toNat) e w' := by
  obtain ⟨i0, hi, hz0, hz1, hz2⟩ := info_parts Try.info2
  have hmp := may_parts hm
  obtain ⟨V, hV⟩ : ∃ V, c.vocab.toNat = V := ⟨_, rfl⟩
  have hV64 : V ≤ 64 := by omega
  have hVc : c.vocab = (V : Int) := by omega
  rw [hV]
  have hz := ha.size
  obtain ⟨wA, hwA⟩ : ∃ wA, wA = w.alloc (.cells (CfV c) 32) := ⟨_, rfl⟩
  have HB0 : Hid (Below w.heap.size w wA) := by unfold Hid; rw [hwA]; exact (Below.refl _ _).alloc (Nat.le_refl _) _
  have HK := hid fun (W : World) (hb : Below wA.heap.size wA W) => Cf_cells (block_below (show wA.heap[w.heap.size]? = some (.cells (CfV c) 32 (0, 0)) by rw [hwA]; exact heap_alloc_new w _) hb)
  have hN := rvnorm_any a len cap zs wA (ha.below HB0.out) hlen
  have HT := hid fun (t : Nat) W => rtoken_g c t W hm
  have HT16 := hid fun (t : Nat) => tokL_len hm t
  have HM : Hid (∀ t : Nat, markZ c zs t = dotK (normL zs) (tokL c t) (min len (tokL c t).length)) := fun t => by rw [← hz]; rfl
  clear ha hm hmp hV
  generalize normL zs = ns at *
  obtain ⟨f, hf⟩ : ∃ f : Nat → Int, f = markZ c zs := ⟨_, rfl⟩
  rw [← hf] at HM ⊢
  obtain ⟨F, hF⟩ : ∃ F : Nat → List Int, F = fun t => tokL c (t : Nat) := ⟨_, rfl⟩
  have hFt : ∀ t : Nat, tokL c (t : Nat) = F t := fun t => by rw [hF]
  simp only [hFt] at HT HT16 HM
  clear hf hF hFt
  obtain ⟨s, v, d, l, tt, h⟩ := c
  simp only at hVc
  subst hVc
  unfold CfV at HT hwA ⊢
  simp only at HT HK hwA ⊢
  go_enter Try.func15, Try.ntmps15
  go_wp2_with fail
  rw [← hwA]
  refine hN.mono ?_
  rintro e w1 ⟨an, cn, rfl, hR, hb⟩
  have HN := hid hR
  have HB := hid hb
  clear hN hR hb hwA
  go_wp2_with fail
  go_loopw [6, 7] (fun u i W => ∃ k : Nat, k ≤ V ∧ i = .int .i64 k ∧ Hid (W.ownsRow w1.heap.size 2 1 u k ((rowK f k).map (Value.int .i64))) ∧ Hid (Below w1.heap.size w1 W)) (fun _ i _ => V - (intOf i).toNat)
  case atStart => exact ⟨0, Nat.zero_le _, rfl, World.ownsRow_nil _ _ _ _, Below.refl _ _⟩
  case round =>
    obtain ⟨k, hk, rfl, HO, HW⟩ := hrel
    rename World => wr
    obtain ⟨x0, x1, x2, x3, x4, x5⟩ := HK.out _ (HB.out.trans (HW.out.mono HB.out.size))
    by_cases hlt : k < V
    · have hT := HT.out k wr
      have h16 := HT16.out k
      have HE := HM.out k
      have HSn := hid (rowK_snoc f k)
      have q1 : (k : Int) < (V : Int) := by omega
      clear HT HT16 HM HK
      generalize F k = ts at *
      go_wp2_with fail
      refine hT.mono ?_
      rintro e w3 ⟨u, rfl, hO3, hb⟩
      obtain ⟨at_, ct, rfl, hrt⟩ := Reads.own (k := .i64) hO3
      have HN3 := hid ((HN.out.below HW.out).below hb)
      replace HO := hid (own_below HO.out hb)
      replace HW := hid (HW.out.trans (hb.mono HW.out.size))
      have hD := rvdot_any an at_ len cn _ ct ns ts w3 HN3.out hrt hlen (by omega)
      rw [← HE] at hD
      clear hT hO3 hb hrt HN3 x0 x1 x2 x3 x4 x5
      go_wp2_with fail
      refine hD.mono ?_
      rintro e w4 ⟨rfl, hb⟩
      replace HO := hid (own_below HO.out hb)
      replace HW := hid (HW.out.trans (hb.mono HW.out.size))
      clear hD hb HE
      have hal : Hid (∀ o, Below w4.heap.size w4 (w4.alloc o)) := fun o => (Below.refl _ _).alloc (Nat.le_refl _) _
      have HS : Hid (w1.heap.size ≤ w4.heap.size) := HW.out.size
      generalize f k = y at *
      generalize rowK f k = us at *
      go_wp2_with (first | (at_builtin; refine append_any _ rfl (.tmp 16) (.tmp 22) 22 rfl w1.heap.size 2 i0 (.int .i64 0) 8 Try.underlying22 hi hz0 hz1 hz2 rfl .i64 _ k us rfl (own_below HO.out (hal.out _)) _ 1 1 [y] rfl (Reads.one _ _ _) (by omega) (by omega) (Nat.le_trans HS.out (by simp)) ?_; intro v' w5 hO5 hb5) | fail)
      have HB5 := hid ((HW.out.alloc HS.out _).trans hb5)
      have HO5 : Hid (w5.ownsRow w1.heap.size 2 1 v' (k + 1) ((rowK f (k + 1)).map (Value.int .i64))) := by rw [← HSn.out]; exact hO5
      clear hO5 hb5 HSn HO HW hal HS
      go_wp2_with fail
      go_round
      case rel => exact ⟨k + 1, by omega, by go_num, HO5, HB5⟩
      case measure => simp [intOf]; omega
    · obtain rfl : k = V := by omega
      have HO5 := hid (own_base HO.out (Nat.le_trans HB0.out.size HB.out.size))
      have HW5 := hid (HB0.out.trans ((HB.out.trans (HW.out.mono HB.out.size)).mono HB0.out.size))
      clear HO HW HB HT HT16 HM HN HK HB0
      go_wp2
      go_ret
      exact ⟨_, rfl, HO5.out, HW5.out⟩
end Go.Proofs.Ytpllffekebkacaa
