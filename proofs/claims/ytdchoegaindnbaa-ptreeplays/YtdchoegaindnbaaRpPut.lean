/-
  The document's tree: Put.
-/
import Derived.Test.YtdchoegaindnbaaRpDef
import Derived.Deep.RegionHeld3
namespace Go.Proofs.Ytdchoegaindnbaa
open Go.RowKit
set_option linter.unusedVariables false
set_option maxRecDepth 1000000

set_option maxHeartbeats 8000000 in
theorem rput_any {B pg sz : Nat} {tm : Int} {v : Value} {qs : List Rk} (a : Option Addr) (nt cap : Nat) (ts : List Int) (x : Int) (w : World) (h : RtAt w B pg sz tm v qs) (ht : Reads .i64 w a nt cap ts) (hap : Aft nt a (rcF B v)) (his : isIs ts) (hx : isU x) (hn : nt ≤ 1000) (h0 : 0 ≤ tm) (h1 : tm ≤ 100000) (hs : 1 ≤ sz) (hs2 : sz ≤ 1000) (hp : 1 ≤ pg ∧ pg ≤ 4096) (hl : qs.length ≤ pg) :
    Calls Try.prog 17 #[.pointer (some ⟨B, 0, none⟩), .slice a nt cap, .int .u64 x] w fun e w' => ∃ (q1 : List Rk) (c : Nat), e = .returned (.int .i64 c) ∧ Hid (PutP pg (tm + 1) x ts sz qs q1 c ∧ q1.length ≤ pg ∧ PutW w B pg sz (tm + 1) v qs q1 w') := by
  obtain ⟨i0, hi, hz0, hz1, hz2⟩ := info_parts Try.info3
  obtain ⟨j0, ji, jz0, jz1, jz2⟩ := info_parts Try.infoMa
  obtain ⟨t0, _, t2⟩ := h.time (tm + 1)
  obtain ⟨c0, c1, c2, c3⟩ := h.cells
  have fB := frozen_of_row _ _ 2 _ _ h.var
  have HT := hid fun (W : World) (hk : Fb (rcF B v) w W) => ht.fb hk hap
  have zt := ht.size
  have rt := ht.room
  have mt := ht.most
  have HIX := hid (And.intro his hx)
  have HS0 : Hid (RunP pg (tm + 1) x ts sz 0 qs qs 0 ∧ qs.length ≤ pg ∧ PutW w B pg sz (tm + 1) v qs qs (w.setCell ⟨B, 2, none⟩ (.int .i64 (tm + 1)))) := ⟨⟨rfl, rfl⟩, hl, PutW.step (W := w) (v1 := v) (q1 := qs) (fun _ h => .inl h) (fun _ h => .inl h) (Fb.refl _ _) t0 t2 (fun _ h => .inl h) fun q hq p hp => .inl ⟨q, hq, hp⟩⟩
  clear h ht hap t0 t2 hl his hx
  obtain ⟨tn, htn⟩ : ∃ tn : Int, tm + 1 = tn := ⟨_, rfl⟩
  rw [htn] at HS0 ⊢
  have htb : 0 ≤ tn ∧ tn ≤ 100001 := by omega
  have hwt : IntKind.i64.wrap (tm + 1) = tn := by rw [htn]; exact wrap64_in (by omega) (by omega)
  obtain ⟨w0, hw0⟩ : ∃ w0, w0 = w.setCell ⟨B, 2, none⟩ (.int .i64 tn) := ⟨_, rfl⟩
  rw [← hw0] at HS0
  have d1 : w0.cell? ⟨B, 1, none⟩ = some (.int .i64 sz) := by
    obtain ⟨_, hR, _⟩ := HS0.out.2.2
    exact hR.cells.2.1
  have HEx : Hid (∀ (q1 : List Rk) (c : Nat) (W : World), PutP pg tn x ts sz qs q1 c → q1.length ≤ pg → PutW w B pg sz tn v qs q1 W → ∃ (q1 : List Rk) (c' : Nat), (Ending.returned (.int .i64 (c : Int))) = .returned (.int .i64 c') ∧ Hid (PutP pg tn x ts sz qs q1 c' ∧ q1.length ≤ pg ∧ PutW w B pg sz tn v qs q1 W)) := fun q1 c W a b d => ⟨q1, c, rfl, a, b, d⟩
  go_enter Try.func17, Try.ntmps17
  go_wp2_with fail
  try rw [htn]
  try rw [← hw0]
  clear hw0 c0 c1 c2 c3 fB d1
  go_loopw [7, 8] (fun u y W => ∃ (j K : Nat) (q1 : List Rk) (c : Nat), K = (j + 1) * sz ∧ j * sz ≤ nt ∧ c ≤ j ∧ u = .int .i64 c ∧ y = .int .i64 K ∧ Hid (RunP pg tn x ts sz j qs q1 c ∧ q1.length ≤ pg ∧ PutW w B pg sz tn v qs q1 W)) (fun _ y _ => nt + 1 + sz - (intOf y).toNat)
  case atStart => exact ⟨0, sz, qs, 0, by omega, by omega, by omega, rfl, rfl, HS0⟩
  case round =>
  obtain ⟨j, K, qs1, c, hK, hj, hcj, rfl, rfl, HS⟩ := hrel
  rename World => wr
  clear HS0
  obtain ⟨v1, hR, hkt, hv1, hf1⟩ := HS.out.2.2
  have hK2 : K + sz = (j + 1 + 1) * sz := by rw [hK, Nat.add_mul (j + 1) 1 sz]; omega
  have hK3 : K = j * sz + sz := by rw [hK, Nat.add_mul]; omega
  have HNj : Hid (nt < K → nt / sz = j) := fun hlt => by
    rw [Nat.div_eq_iff (by omega)]
    omega
  have hK4 : 1 ≤ K ∧ K ≤ nt + sz := by omega
  have hjn : c ≤ 1000 := by
    have : j ≤ j * sz := Nat.le_mul_of_pos_right j (by omega)
    omega
  have HKe := hid hK
  have HK2 := hid hK2
  have HJs : Hid (K ≤ nt → (j + 1) * sz ≤ nt) := fun h => by rw [← hK]; exact h
  have HRun := hid HS.out.1
  have hE := HS.out.2.1
  have HCj : Hid (c ≤ j) := hcj
  clear hK hK2 hK3 hj hcj
  by_cases hle : K ≤ nt
  · have hq : (K : Int) ≤ (nt : Int) := by omega
    have hTr := HT.out wr hf1
    obtain ⟨b, off, hab, _⟩ := hTr.cell 0 (by omega)
    subst hab
    have HTk := hid (hTr.cut hle)
    have HV := hid hv1
    have HKt := hid hkt
    have HRk := hid hR
    have HF1 := hid hf1
    have HNe : Hid (∀ W : World, W.ownsRow wr.heap.size 3 1 (.slice none 0 0) 0 (([] : List Int).map (Value.int .i64))) := fun W => World.ownsRow_nil _ _ _ _
    clear HNj hTr hR hv1 hkt hf1 HT
    go_wp2_with (at_builtin; refine append_any _ rfl (.const (.slice none 0 0)) (.tmp 36) 32 rfl wr.heap.size 3 i0 (.int .i64 0) 8 Try.underlying32 hi hz0 hz1 hz2 rfl .i64 _ 0 [] rfl (HNe.out _) _ K cap (ts.take K) rfl HTk.out (by omega) (by omega) (Nat.le_refl _) ?_; intro v3 w3 hO3 hb3)
    rw [Nat.zero_add, List.nil_append] at hO3
    have hB3 := own_bln17 hO3
    obtain ⟨p3, d3, rfl, hr3⟩ := Reads.own (k := .i64) hO3
    replace hB3 := hB3 _ _ _ rfl
    have HXo : Hid (∀ p, p3 = some p → w.heap.size ≤ p.block) := fun p hp => Nat.le_trans HF1.out.size (hO3.lt p.block (by rw [hp]; rfl)).1
    have hPl := rplace_any p3 K d3 (ts.take K) x w3 (HRk.out.below hb3) hr3 (by omega)
    have hr3s := hr3.size
    obtain ⟨q, Hq⟩ : ∃ q : Rk, Hid (q = ⟨p3, d3, ts.take K, x, tn⟩) := ⟨_, rfl⟩
    have HQ3 : Hid (RkIn w3 q) := by
      rw [Hq.out]
      exact ⟨by rw [hr3s]; exact hr3, hB3, fun y hy => HIX.out.1 y (List.mem_of_mem_take hy), by simp only; omega, HIX.out.2⟩
    have HQf : Hid (q.toks = ts.take ((j + 1) * sz) ∧ q.rep = x ∧ q.used = tn ∧ q.ap = p3 ∧ q.cp = d3 ∧ q.toks.length = K) := by
      rw [Hq.out]
      exact ⟨by rw [← HKe.out], rfl, rfl, rfl, rfl, hr3s⟩
    have hr3r := hr3.room
    have hr3m := hr3.most
    have HB3 := hid hb3
    have HSt : Hid (∀ q' c', StepP pg tn x (ts.take ((j + 1) * sz)) qs1 c q' c' → RunP pg tn x ts sz (j + 1) qs q' c') := fun q' c' hs => ⟨qs1, c, HRun.out, hs⟩
    have HSp : Hid (K ≤ nt → plcM qs1 x (ts.take ((j + 1) * sz)) < 0 → pg ≤ qs1.length → oldM qs1 tn qs1.length < 0 → PutP pg tn x ts sz qs qs1 c) := fun hle a b d => .inr ⟨j, by
      rw [zt, Nat.lt_iff_add_one_le, Nat.le_div_iff_mul_le (by omega)]
      exact HJs.out hle, HRun.out, a, b, d⟩
    rw [show ts.take K = ts.take ((j + 1) * sz) by rw [← HKe.out]] at hPl
    obtain ⟨pz, Hpz⟩ : ∃ pz, Hid (plcM qs1 x (ts.take ((j + 1) * sz)) = pz) := ⟨_, rfl⟩
    rw [Hpz.out] at hPl
    clear HTk hO3 hr3 hB3 hb3 HNe Hq
    refine hPl.mono ?_
    rintro e w4 ⟨rfl, hb4⟩
    have HB4 := hid (HB3.out.trans (hb4.mono HB3.out.size))
    replace HQ3 := hid (HQ3.out.below hb4)
    replace HRk := hid (HRk.out.below HB4.out)
    replace HF1 := hid (HF1.out.below HB4.out)
    clear HB3 hb4 hPl
    by_cases hpos : 0 ≤ pz
    · obtain ⟨p, rfl⟩ : ∃ p : Nat, pz = (p : Int) := ⟨pz.toNat, by omega⟩
      have hql := (plcM_ok Hpz.out).1
      obtain ⟨g, cv, cur, hv, hg, rv, mv⟩ := HRk.out.isSome hql
      subst hv
      obtain ⟨x1, _, x3⟩ := HRk.out.use hql tn
      obtain ⟨c0, c1, c2, c3⟩ := HRk.out.cells
      have cu := (HRk.out.at hql).2.2
      have fu : w4.frozen? ⟨g, p * 3 + 2, none⟩ = false := frozen_of_row _ _ _ _ _ hg
      have e1 := x1.cells.2.1
      have HS2 : Hid (RunP pg tn x ts sz (j + 1) qs (qs1.set p ((rk qs1 p).at tn)) c ∧ (qs1.set p ((rk qs1 p).at tn)).length ≤ pg ∧ PutW w B pg sz tn v qs (qs1.set p ((rk qs1 p).at tn)) (w4.setCell ⟨g, p * 3 + 2, none⟩ (.int .i64 tn))) :=
        ⟨HSt.out _ _ (.inl ⟨p, Hpz.out, rfl, rfl⟩), by rw [List.length_set]; exact hE, PutW.step HKt.out HV.out HF1.out x1 x3 (fun b hb => .inl hb) fun q hq p hp => .inl (set_ap hql q hq p hp)⟩
      obtain ⟨n, hN⟩ : ∃ n, qs1.length = n := ⟨_, rfl⟩
      rw [hN] at hql c3 rv hE
      have q1 : (p : Int) < (n : Int) := by omega
      clear hg cur x1 x3 HRk HF1 HQ3 HB4 HV HKt HS hN HSp HSt HRun HXo HQf
      go_wp2_with fail
      go_region
      go_wp2_with fail
      go_round
      case rel => exact ⟨j + 1, K + sz, _, c, HK2.out, HJs.out hle, by have := HCj.out; omega, rfl, by go_num, ⟨HS2.out.1, HS2.out.2.1, HS2.out.2.2.below (Below.refl _ _).drew⟩⟩
      case measure => simp [intOf]; omega
    · have hneg : pz < 0 := by omega
      have HPn : Hid (plcM qs1 x (ts.take ((j + 1) * sz)) < 0) := by unfold Hid; rw [Hpz.out]; exact hneg
      obtain ⟨av, cv, rfl, rv, mv⟩ := HRk.out.isSl
      obtain ⟨c0, c1, c2, c3⟩ := HRk.out.cells
      have HBa := hid HRk.out.bare
      obtain ⟨n, hN⟩ : ∃ n, qs1.length = n := ⟨_, rfl⟩
      rw [hN] at c3 rv hE HBa HRk HV HKt
      clear HS Hpz
      by_cases hful : n < pg
      · have hfl : ¬ (pg : Int) ≤ (n : Int) := by omega
        have hfd : decide ((pg : Int) ≤ (n : Int)) = false := by simp; omega
        have HFs : Hid (RunP pg tn x ts sz (j + 1) qs (qs1 ++ [q]) (c + 1) ∧ (qs1 ++ [q]).length ≤ pg) := ⟨HSt.out _ _ (.inr ⟨HPn.out, rfl, .inl ⟨by omega, q, HQf.out.1, HQf.out.2.1, HQf.out.2.2.1, rfl⟩⟩), by simp; omega⟩
        clear hpos HSp HSt
        go_wp2_with fail
        go_quiet (fail)
        go_wp2_with fail
        have hb5 : Below w4.heap.size w4 (w4.drewN nq) := ⟨rfl, rfl, rfl, Nat.le_refl _, fun _ _ => rfl⟩
        replace HRk := hid (HRk.out.below hb5)
        replace HQ3 := hid (HQ3.out.below hb5)
        replace HF1 := hid (HF1.out.below hb5)
        clear HB4 hb5 c0 c1 c2 c3
        generalize w4.drewN nq = w5 at *
        have hln : n + 1 ≤ 5000 := by omega
        have HK := hid fun (W : World) (hb : Below w5.heap.size w5 W) => (⟨(HRk.out.below hb).cells.2.2.1, (HRk.out.below hb).cells.2.2.2, frozen_of_row _ _ 3 _ _ (HRk.out.below hb).var⟩ : W.cell? ⟨B, 2, none⟩ = some (.int .i64 tn) ∧ W.cell? ⟨B, 3, none⟩ = some (.slice av n cv) ∧ W.frozen? ⟨B, 3, none⟩ = false)
        have HNw := hid fun (W : World) (hb : Below w5.heap.size w5 W) => (HRk.out.below hb).news
        have HLq : Hid ((flatM qs1).length = n * 3) := by unfold Hid; rw [flatM_len, hN]
        have HOn := hid (flatM_one qs1)
        have HFin : Hid (∀ (base : Nat) (v7 : Value) (W7 : World), w5.heap.size ≤ base → W7.ownsRow base 45 3 v7 (0 + n + 1) ([] ++ flatM qs1 ++ [.slice p3 K d3, .int .u64 x, .int .i64 tn]) → Below w5.heap.size w5 W7 → (RunP pg tn x ts sz (j + 1) qs (qs1 ++ [q]) (c + 1) ∧ (qs1 ++ [q]).length ≤ pg ∧ PutW w B pg sz tn v qs (qs1 ++ [q]) (W7.setCell ⟨B, 3, none⟩ v7)) ∧ (W7.setCell ⟨B, 3, none⟩ v7).cell? ⟨B, 1, none⟩ = some (.int .i64 sz) ∧ (W7.setCell ⟨B, 3, none⟩ v7).cell? ⟨B, 2, none⟩ = some (.int .i64 tn)) := by
          intro base v7 W7 hba hO7 hb7
          obtain ⟨f1, f2, f3, f4, f5, f6⟩ := HQf.out
          obtain ⟨y1, y2, y3, y4⟩ := HRk.out.more hb7 (base := base) (q := q) (by rw [hN, f4, f5, f6, f2, f3]; simpa using hO7) hba (HQ3.out.below hb7) (by rw [hN]; exact hln)
          refine ⟨⟨HFs.out.1, HFs.out.2, PutW.step HKt.out HV.out HF1.out y1 y3 (fun b hb => .inr (y4 b hb)) fun y hy p hp => ?_⟩, y1.cells.2.1, y1.cells.2.2.1⟩
          rcases List.mem_append.1 hy with hy | hy
          · exact .inl ⟨y, hy, hp⟩
          · simp at hy
            rw [hy, f4] at hp
            exact .inr (HXo.out p hp)
        have HV5 : Hid (Below w5.heap.size w5 w5.drew) := (Below.refl _ _).drew
        have HA5 := hid fun (o : Obj) => ((Below.refl w5.heap.size w5).alloc (Nat.le_refl _) o).drew
        have HUa := hid fun (W : World) (hb : Below w5.heap.size w5 W) (o : Obj) => hb.alloc hb.size o
        have HCn := hid fun (o : Obj) => (heap_alloc_new w5 o : (w5.alloc o).drew.heap[w5.heap.size]? = some o)
        have l2 : w5.cell? ⟨B, 2, none⟩ = some (.int .i64 tn) := (HK.out _ HV5.out).1
        have l2a : ∀ o : Obj, (w5.alloc o).cell? ⟨B, 2, none⟩ = some (.int .i64 tn) := fun o => (HK.out _ (HA5.out o)).1
        have l3 : w5.cell? ⟨B, 3, none⟩ = some (.slice av n cv) := (HK.out _ HV5.out).2.1
        have l3a : ∀ o : Obj, (w5.alloc o).cell? ⟨B, 3, none⟩ = some (.slice av n cv) := fun o => (HK.out _ (HA5.out o)).2.1
        clear HRk HQ3 HF1 HV HKt HFs hN
        go_region_law
          (first
            | (refine step_append17 (by rfl) 135 (by rfl) (.const (.slice none 0 0)) (.tmp 134) 28 (by rfl) w5.heap.size 45 j0 (.agg #[.slice none 0 0, .int .u64 0, .int .i64 0]) 3 40 Try.undMa ji jz0 jz1 jz2 rfl (by decide) (by decide) _ 0 [] (by rfl) (World.ownsRow_nil _ _ _ _) av n cv (flatM qs1) (by rfl) HBa.out HLq.out (HNw.out _ HV5.out) HOn.out (by omega) HV5.out.size ?_; intro v6 w6 hO6 hb6; have HW6 := hid (HV5.out.trans hb6); have HO6 := hid hO6; have m2 := (HK.out _ HW6.out).1; have HZ6 := hid (Nat.le_refl w5.heap.size); clear hO6 hb6)
            | (refine step_append17 (by rfl) 135 (by rfl) (.const (.slice none 0 0)) (.tmp 134) 28 (by rfl) (w5.heap.size + 1) 45 j0 (.agg #[.slice none 0 0, .int .u64 0, .int .i64 0]) 3 40 Try.undMa ji jz0 jz1 jz2 rfl (by decide) (by decide) _ 0 [] (by rfl) (World.ownsRow_nil _ _ _ _) av n cv (flatM qs1) (by rfl) HBa.out HLq.out (HNw.out _ (HA5.out _)) HOn.out (by omega) (by simp) ?_; intro v6 w6 hO6 hb6; have HW6 := hid ((HA5.out _).trans (hb6.mono (Nat.le_succ _))); have HO6 := hid hO6; have m2 := (HK.out _ HW6.out).1; have HZ6 := hid (Nat.le_succ w5.heap.size); have HZs := hid (Nat.le_trans (by simp : w5.heap.size + 1 ≤ (w5.alloc _).drew.heap.size) hb6.size); have HC6 := hid ((hb6.block _ (Nat.lt_succ_self _)).trans (HCn.out _)); clear hO6 hb6)
            | (refine step_append17 (by rfl) 144 (by rfl) (.tmp 135) (.tmp 143) 28 (by rfl) _ 45 j0 (.agg #[.slice none 0 0, .int .u64 0, .int .i64 0]) 3 40 Try.undMa ji jz0 jz1 jz2 rfl (by decide) (by decide) v6 (0 + n) ([] ++ flatM qs1) (by rfl) (HO6.out.alloc _) (some ⟨w6.heap.size, 0, none⟩) 1 1 [.slice p3 K d3, .int .u64 x, .int .i64 tn] (by rfl) (fun e => by cases e) rfl (fun b hb => by cases hb; exact World.news_of_block (heap_alloc_new w6 _)) (by simp [Value.oneCell']) (by omega) (HUa.out _ HW6.out _).size ?_; intro v7 w7 hO7 hb7; obtain ⟨g7, e7, rfl⟩ := own_some17 hO7 (by omega); have HW7 := hid ((HUa.out _ HW6.out _).trans hb7); have HO7 := hid hO7; have s3 := (HK.out _ HW7.out).2.1; have s4 := (HK.out _ HW7.out).2.2; have HE7 := hid (HFin.out _ _ _ HZ6.out HO7.out HW7.out); clear hO7 hb7)
            | (refine step_append17 (by rfl) 144 (by rfl) (.tmp 135) (.tmp 143) 28 (by rfl) _ 45 j0 (.agg #[.slice none 0 0, .int .u64 0, .int .i64 0]) 3 40 Try.undMa ji jz0 jz1 jz2 rfl (by decide) (by decide) v6 (0 + n) ([] ++ flatM qs1) (by rfl) HO6.out (some ⟨w5.heap.size, 0, none⟩) 1 1 [.slice p3 K d3, .int .u64 x, .int .i64 tn] (by rfl) (fun e => by cases e) rfl (fun b hb => by cases hb; exact World.news_of_block HC6.out) (by simp [Value.oneCell']) (by omega) HZs.out ?_; intro v7 w7 hO7 hb7; obtain ⟨g7, e7, rfl⟩ := own_some17 hO7 (by omega); have HW7 := hid (HW6.out.trans (hb7.mono HZ6.out)); have HO7 := hid hO7; have s3 := (HK.out _ HW7.out).2.1; have s4 := (HK.out _ HW7.out).2.2; have HE7 := hid (HFin.out _ _ _ HZ6.out HO7.out HW7.out); clear hO7 hb7)
            | fail)
        all_goals
          have e1 := HE7.out.2.1
          have HS2 := hid HE7.out.1
          rw [Nat.zero_add] at e1 HS2
          clear HE7 HO7 HO6 HW6 HW7 HFin HK HNw HA5 HUa HCn l2 l2a l3 l3a m2 s3 s4
        all_goals
          go_wp2_with fail
          go_round
          case rel => exact ⟨j + 1, K + sz, _, c + 1, HK2.out, HJs.out hle, by have := HCj.out; omega, by go_num, by go_num, HS2⟩
          case measure => simp [intOf]; omega
      · have hfl : (pg : Int) ≤ (n : Int) := by omega
        have hfd : decide ((pg : Int) ≤ (n : Int)) = true := by simp; omega
        have HEnd : Hid (oldM qs1 tn n < 0 → PutP pg tn x ts sz qs qs1 c) := fun ho => HSp.out hle HPn.out (by omega) (by rw [hN]; exact ho)
        have HSwap : Hid (∀ o : Nat, oldM qs1 tn n = o → RunP pg tn x ts sz (j + 1) qs (qs1.eraseIdx o ++ [q]) (c + 1) ∧ (qs1.eraseIdx o ++ [q]).length ≤ pg) := fun o ho => ⟨HSt.out _ _ (.inr ⟨HPn.out, rfl, .inr ⟨by omega, o, q, by rw [hN]; exact ho, HQf.out.1, HQf.out.2.1, HQf.out.2.2.1, rfl⟩⟩), by
          have := oldM_bd qs1 tn n
          rw [List.length_append, List.length_eraseIdx, if_pos (by omega)]
          simp
          omega⟩
        have HOb := hid fun (k : Nat) => oldM_bd qs1 tn k
        have HO0 : Hid (oldM qs1 tn 0 = -1) := rfl
        have HOs : Hid (∀ k, oldM qs1 tn (k + 1) = if decide ((rk qs1 k).used < tn) && (decide (oldM qs1 tn k < 0) || oldB (rk qs1 k) (rk qs1 (oldM qs1 tn k).toNat)) then (k : Int) else oldM qs1 tn k) := fun _ => rfl
        clear hpos hful HSp HSt
        go_wp2_with fail
        go_quiet (fail)
        have hb5 : Below w4.heap.size w4 (w4.drewN nq) := ⟨rfl, rfl, rfl, Nat.le_refl _, fun _ _ => rfl⟩
        replace HRk := hid (HRk.out.below hb5)
        replace HQ3 := hid (HQ3.out.below hb5)
        replace HF1 := hid (HF1.out.below hb5)
        clear HB4 hb5 c0 c1 c2 c3
        generalize w4.drewN nq = w5 at *
        obtain ⟨O, hO⟩ : ∃ O : Nat → Int, O = oldM qs1 tn := ⟨_, rfl⟩
        rw [← hO] at HSwap HEnd HOb HO0 HOs
        clear hO
        have HW0 := hid (Below.refl w5.heap.size w5)
        go_wp2_with fail
        go_loopw [11, 12] (fun o i W => ∃ k : Nat, k ≤ n ∧ i = .int .i64 k ∧ o = .int .i64 (O k) ∧ Hid (Below w5.heap.size w5 W)) (fun _ i _ => n - (intOf i).toNat)
        case atStart => exact ⟨0, Nat.zero_le _, rfl, by rw [HO0.out], HW0⟩
        case round =>
        obtain ⟨k, hk, rfl, rfl, HW⟩ := hrel
        rename World => w6
        have hR6 := HRk.out.below HW.out
        obtain ⟨c0, c1, c2, c3⟩ := hR6.cells
        have ob := HOb.out k
        clear HOb HO0 HW0
        by_cases hkn : k < n
        · have q1 : (k : Int) < (n : Int) := by omega
          obtain ⟨g, cap', cur, hv, hg, _, _⟩ := hR6.isSome (k := k) (by omega)
          have hav : av = some ⟨g, 0, none⟩ := by cases hv; rfl
          subst hav
          obtain ⟨ca, cr, cu⟩ := hR6.at (k := k) (by omega)
          have hOk := HOs.out k
          have HD6 : Hid (∀ m, Below w5.heap.size w5 (w6.drewN m)) := fun m => ⟨HW.out.os, HW.out.tape, HW.out.output, HW.out.size, HW.out.block⟩
          by_cases hu : (rk qs1 k).used < tn
          · by_cases hon : O k < 0
            · have HOk : Hid (Value.int .i64 (k : Int) = .int .i64 (O (k + 1))) := by unfold Hid; rw [hOk]; simp [hu, hon]
              clear hOk HRk HQ3 HF1 HV HKt HSwap HEnd HOs hR6 hv hg cur hN HBa HKe HK2 HJs HRun HPn HXo HQf
              generalize rk qs1 k = y at *
              obtain ⟨y1, y3, yt, yr, yu⟩ := y
              simp only at ca cr cu hu
              generalize yt.length = y2 at *
              go_wp2_with fail
              go_quiet (fail)
              go_wp2_with fail
              go_round
              case rel => exact ⟨k + 1, by omega, by go_num, HOk.out, HD6.out _⟩
              case measure => simp [intOf]; omega
            · obtain ⟨o, hoe⟩ : ∃ o : Nat, O k = (o : Int) := ⟨(O k).toNat, by omega⟩
              rw [hoe] at hOk hon ob ⊢
              simp only [hu, hon, decide_true, decide_false, Bool.true_and, Bool.false_or, Int.toNat_natCast] at hOk
              have hol : o < n := by omega
              have hol2 : (o : Int) < (n : Int) := by omega
              obtain ⟨da, dr, du⟩ := hR6.at (k := o) (by omega)
              have hOl := rolder_any (rk qs1 k) (rk qs1 o) w6.drew ((hR6.ins _ (rk_mem (i := k) (by omega))).below (Below.refl _ _).drew) ((hR6.ins _ (rk_mem (i := o) (by omega))).below (Below.refl _ _).drew)
              have hud : decide ((rk qs1 k).used < tn) = true := by simpa using hu
              have HH : Hid (∀ W' : World, Below w6.heap.size w6 W' → W'.cell? ⟨B, 2, none⟩ = some (.int .i64 tn) ∧ W'.cell? ⟨B, 3, none⟩ = some (.slice (some ⟨g, 0, none⟩) n cv) ∧ W'.cell? ⟨g, k * 3, none⟩ = some (.slice (rk qs1 k).ap (rk qs1 k).toks.length (rk qs1 k).cp) ∧ W'.cell? ⟨g, k * 3 + 1, none⟩ = some (.int .u64 (rk qs1 k).rep) ∧ W'.cell? ⟨g, k * 3 + 2, none⟩ = some (.int .i64 (rk qs1 k).used) ∧ W'.cell? ⟨g, o * 3, none⟩ = some (.slice (rk qs1 o).ap (rk qs1 o).toks.length (rk qs1 o).cp) ∧ W'.cell? ⟨g, o * 3 + 1, none⟩ = some (.int .u64 (rk qs1 o).rep) ∧ W'.cell? ⟨g, o * 3 + 2, none⟩ = some (.int .i64 (rk qs1 o).used)) := fun W' hb => by
                have h9 := hR6.below hb
                obtain ⟨z1, z2, z3⟩ := h9.at (k := k) (by omega)
                obtain ⟨z4, z5, z6⟩ := h9.at (k := o) (by omega)
                exact ⟨h9.cells.2.2.1, h9.cells.2.2.2, z1, z2, z3, z4, z5, z6⟩
              have HW6 := hid (Below.refl w6.heap.size w6)
              have HW6d : Hid (Below w6.heap.size w6 w6.drew) := HW6.out.drew
              generalize oldB (rk qs1 k) (rk qs1 o) = ob2 at *
              clear HRk HQ3 HF1 HV HKt HSwap HEnd HOs hR6 hv hg cur hN HBa HKe HK2 HJs HRun HPn HXo HQf ca cr cu da dr du hoe
              generalize rk qs1 k = y at *
              generalize rk qs1 o = z at *
              obtain ⟨y1, y3, yt, yr, yu⟩ := y
              obtain ⟨z1, z3, zt2, zr, zu⟩ := z
              simp only at hu HH hOl hud
              generalize yt.length = y2 at *
              generalize zt2.length = z2 at *
              go_wp2_with fail
              clear c0 c1 c2 c3
              cases ob2 with
              | true =>
                have HOk : Hid (Value.int .i64 (k : Int) = .int .i64 (O (k + 1))) := by unfold Hid; rw [hOk]; simp
                clear hOk
                go_region_held3 (fun W' : World => W'.cell? ⟨B, 2, none⟩ = some (.int .i64 tn) ∧ W'.cell? ⟨B, 3, none⟩ = some (.slice (some ⟨g, 0, none⟩) n cv) ∧ W'.cell? ⟨g, k * 3, none⟩ = some (.slice y1 y2 y3) ∧ W'.cell? ⟨g, k * 3 + 1, none⟩ = some (.int .u64 yr) ∧ W'.cell? ⟨g, k * 3 + 2, none⟩ = some (.int .i64 yu) ∧ W'.cell? ⟨g, o * 3, none⟩ = some (.slice z1 z2 z3) ∧ W'.cell? ⟨g, o * 3 + 1, none⟩ = some (.int .u64 zr) ∧ W'.cell? ⟨g, o * 3 + 2, none⟩ = some (.int .i64 zu))
                  (first | (with_reducible exact HH.out _ HW6.out) | (with_reducible exact HH.out _ HW6d.out) | (with_reducible exact HH.out _ HW7.out))
                  (first | (go_at_call 33; (with_reducible refine hOl.mono ?_); rintro r w7 ⟨rfl, H7⟩; have HW7 : Hid (Below w6.heap.size w6 w7) := HW6d.out.trans (H7.mono HW6d.out.size); clear H7))
                all_goals
                  have HWE : Hid (Below w5.heap.size w5 w7) := HW.out.trans (HW7.out.mono HW.out.size)
                  clear HW7 HW6 HW6d HH
                  go_wp2_with fail
                  go_round
                  case rel => exact ⟨k + 1, by omega, by go_num, HOk.out, HWE⟩
                  case measure => simp [intOf]; omega
              | false =>
                have HOk : Hid (Value.int .i64 (o : Int) = .int .i64 (O (k + 1))) := by unfold Hid; rw [hOk]; simp
                clear hOk
                go_region_held3 (fun W' : World => W'.cell? ⟨B, 2, none⟩ = some (.int .i64 tn) ∧ W'.cell? ⟨B, 3, none⟩ = some (.slice (some ⟨g, 0, none⟩) n cv) ∧ W'.cell? ⟨g, k * 3, none⟩ = some (.slice y1 y2 y3) ∧ W'.cell? ⟨g, k * 3 + 1, none⟩ = some (.int .u64 yr) ∧ W'.cell? ⟨g, k * 3 + 2, none⟩ = some (.int .i64 yu) ∧ W'.cell? ⟨g, o * 3, none⟩ = some (.slice z1 z2 z3) ∧ W'.cell? ⟨g, o * 3 + 1, none⟩ = some (.int .u64 zr) ∧ W'.cell? ⟨g, o * 3 + 2, none⟩ = some (.int .i64 zu))
                  (first | (with_reducible exact HH.out _ HW6.out) | (with_reducible exact HH.out _ HW6d.out) | (with_reducible exact HH.out _ HW7.out))
                  (first | (go_at_call 33; (with_reducible refine hOl.mono ?_); rintro r w7 ⟨rfl, H7⟩; have HW7 : Hid (Below w6.heap.size w6 w7) := HW6d.out.trans (H7.mono HW6d.out.size); clear H7))
                all_goals
                  have HWE : Hid (Below w5.heap.size w5 w7) := HW.out.trans (HW7.out.mono HW.out.size)
                  clear HW7 HW6 HW6d HH
                  go_wp2_with fail
                  go_round
                  case rel => exact ⟨k + 1, by omega, by go_num, HOk.out, HWE⟩
                  case measure => simp [intOf]; omega
          · have HOk : Hid (Value.int .i64 (O k) = .int .i64 (O (k + 1))) := by unfold Hid; rw [hOk]; simp [hu]
            clear hOk HRk HQ3 HF1 HV HKt HSwap HEnd HOs hR6 hv hg cur hN HBa HKe HK2 HJs HRun HPn HXo HQf
            generalize rk qs1 k = y at *
            obtain ⟨y1, y3, yt, yr, yu⟩ := y
            simp only at ca cr cu hu
            generalize yt.length = y2 at *
            have hud : decide (yu < tn) = false := by simpa using hu
            go_wp2_with fail
            go_quiet (fail)
            go_wp2_with fail
            go_round
            case rel => exact ⟨k + 1, by omega, by go_num, HOk.out, HD6.out _⟩
            case measure => simp [intOf]; omega
        · obtain rfl : n = k := by omega
          have hb6 := HW.out
          replace HRk := hid hR6
          replace HQ3 := hid (HQ3.out.below hb6)
          replace HF1 := hid (HF1.out.below hb6)
          clear hb6 hR6 HW HOs
          by_cases ho : O n < 0
          · have hod : decide (O n < 0) = true := by simp [ho]
            have HEn := hid (HEnd.out ho)
            have HQ : Hid (PutW w B pg sz tn v qs qs1 w6) := ⟨_, HRk.out, HKt.out, HV.out, HF1.out⟩
            have hE2 : qs1.length ≤ pg := by omega
            have HEE := hid (HEx.out qs1 c w6 HEn.out hE2 HQ.out)
            clear HEnd HSwap HRk HQ3 HF1 HV HKt HEn HQ HEx
            go_wp2
            go_ret
            exact HEE.out
          · obtain ⟨o, hoe⟩ : ∃ o : Nat, O n = (o : Int) := ⟨(O n).toNat, by omega⟩
            have HU2 := hid (HSwap.out o hoe)
            rw [hoe] at ob ⊢
            have hol : o < n := by omega
            have hol2 : (o : Int) < (n : Int) := by omega
            have hon : ¬ (o : Int) < 0 := by omega
            have hod : decide ((o : Int) < 0) = false := by simp
            have hnb : n ≤ 5000 := by omega
            obtain ⟨g, cap', cur, hv, hg, _, _⟩ := HRk.out.isSome (k := o) (by omega)
            have hav : av = some ⟨g, 0, none⟩ := by cases hv; rfl
            subst hav
            have HNw := hid fun (W : World) (hb : Below w6.heap.size w6 W) => (HRk.out.below hb).news
            have HK := hid fun (W : World) (hb : Below w6.heap.size w6 W) => (⟨(HRk.out.below hb).cells.2.2.2, frozen_of_row _ _ 3 _ _ (HRk.out.below hb).var⟩ : W.cell? ⟨B, 3, none⟩ = some (.slice (some ⟨g, 0, none⟩) n cv) ∧ W.frozen? ⟨B, 3, none⟩ = false)
            have HL1 : Hid ((flatM (qs1.take o)).length = o * 3) := by unfold Hid; rw [flatM_len, List.length_take]; congr 1; omega
            have HL2 : Hid ((flatM (qs1.drop (o + 1))).length = (n - (o + 1)) * 3) := by unfold Hid; rw [flatM_len, List.length_drop, hN]
            have HFin : Hid (∀ (v8 : Value) (W8 : World), W8.ownsRow w6.heap.size 45 3 v8 (0 + o + (n - (o + 1))) ([] ++ flatM (qs1.take o) ++ flatM (qs1.drop (o + 1))) → Below w6.heap.size w6 W8 → PutW w B pg sz tn v qs (qs1.eraseIdx o) (W8.setCell ⟨B, 3, none⟩ v8) ∧ RkIn (W8.setCell ⟨B, 3, none⟩ v8) q) := by
              intro v8 W8 hO8 hb8
              rw [List.nil_append, show 0 + o + (n - (o + 1)) = qs1.length - 1 by omega] at hO8
              obtain ⟨y1, y2, y3, y4⟩ := HRk.out.gone hb8 (by omega) hO8 (Nat.le_refl _)
              exact ⟨PutW.step HKt.out HV.out HF1.out y1 y3 (fun b hb => .inr (y4 b hb)) fun q hq p hp => .inl ⟨q, List.mem_of_mem_eraseIdx hq, hp⟩, HQ3.out.kpi y2⟩
            have HN1 : Hid (∀ W : World, Below w6.heap.size w6 W → ∀ b, some (⟨g, 0, none⟩ : Addr) = some b → ∀ j u, (flatM (qs1.take o))[j]? = some u → W.cell? (b.add j) = some u) := fun W hb b hbe j u hu => by
              rw [flatM_take, List.getElem?_take] at hu
              split at hu
              · exact HNw.out W hb b hbe j u hu
              · cases hu
            have hw1 : IntKind.i64.wrap ((o : Int) + 1) = (o : Int) + 1 := wrap64_in (by omega) (by omega)
            have hs1 := fun W : World => cutM_to g n cv o (by omega) W
            obtain ⟨A, hs2, hA⟩ := cutM_from g n cv o (by omega) (by omega)
            have HN2 : Hid (∀ W : World, Below w6.heap.size w6 W → ∀ b, some A = some b → ∀ j u, (flatM (qs1.drop (o + 1)))[j]? = some u → W.cell? (b.add j) = some u) := fun W hb b hbe j u hu => by
              cases hbe
              have hj : j < (flatM (qs1.drop (o + 1))).length := by
                rcases Nat.lt_or_ge j (flatM (qs1.drop (o + 1))).length with h | h
                · exact h
                · rw [List.getElem?_eq_none h] at hu; cases hu
              rw [HL2.out] at hj
              rw [hA (by omega)]
              rw [flatM_drop, List.getElem?_drop] at hu
              have := HNw.out W hb _ rfl _ u hu
              rw [Addr.add_lit, Nat.zero_add] at this
              rw [Addr.add_lit]
              exact this
            clear hA
            have HO1 := hid (flatM_one (qs1.take o))
            have HO2 := hid (flatM_one (qs1.drop (o + 1)))
            have l3 : w6.cell? ⟨B, 3, none⟩ = some (.slice (some ⟨g, 0, none⟩) n cv) := (HK.out _ (Below.refl _ _)).1
            have HV6 : Hid (Below w6.heap.size w6 w6.drew) := (Below.refl _ _).drew
            have HlE : Hid ((qs1.eraseIdx o).length = n - 1) := by unfold Hid; rw [List.length_eraseIdx, if_pos (by omega), hN]
            clear HEnd HSwap HRk HF1 HV HKt HQ3 c0 c1 c2 c3 hv hg cur ho hoe
            go_wp2_with fail
            go_cut [11] (fun x wx => x = .int .i64 (o : Int) ∧ Hid (PutW w B pg sz tn v qs (qs1.eraseIdx o) wx) ∧ Hid (RkIn wx q))
            case first =>
              go_region_law
                (first
                  | (refine step_append17 (by rfl) 119 (by rfl) (.const (.slice none 0 0)) (.tmp 118) 28 (by rfl) w6.heap.size 45 j0 (.agg #[.slice none 0 0, .int .u64 0, .int .i64 0]) 3 40 Try.undMa ji jz0 jz1 jz2 rfl (by decide) (by decide) _ 0 [] (by rfl) (World.ownsRow_nil _ _ _ _) (some ⟨g, 0, none⟩) o cv (flatM (qs1.take o)) (by rfl) (fun e => by cases e) HL1.out (HN1.out _ HV6.out) HO1.out (by omega) HV6.out.size ?_; intro v7 w7 hO7 hb7; have HW7 := hid (HV6.out.trans hb7); have HO7 := hid hO7; have m3 := (HK.out _ HW7.out).1; clear hO7 hb7)
                  | (refine step_append17 (by rfl) 127 (by rfl) (.tmp 119) (.tmp 126) 28 (by rfl) w6.heap.size 45 j0 (.agg #[.slice none 0 0, .int .u64 0, .int .i64 0]) 3 40 Try.undMa ji jz0 jz1 jz2 rfl (by decide) (by decide) v7 (0 + o) ([] ++ flatM (qs1.take o)) (by rfl) HO7.out (some A) (n - (o + 1)) (cv - (o + 1)) (flatM (qs1.drop (o + 1))) (by rfl) (fun e => by cases e) HL2.out (HN2.out _ HW7.out) HO2.out (by omega) HW7.out.size ?_; intro v8 w8 hO8 hb8; obtain ⟨a8, e8, rfl⟩ := own_sl17 hO8; have HW8 := hid (HW7.out.trans hb8); have s3 := (HK.out _ HW8.out).1; have s4 := (HK.out _ HW8.out).2; have HP8 := hid (HFin.out _ _ hO8 HW8.out); clear hO8 hb8)
                  | fail)
              all_goals
                rw [Nat.zero_add] at HP8
                clear HFin HNw HN1 HN2 HL1 HL2 HO1 HO2 HK l3 HV6 hs1 hs2 m3 s3 s4 HW7 HW8 HO7 HU2
              all_goals
                go_wp2_with fail
              all_goals
                go_meet
                exact ⟨rfl, hid HP8.out.1, hid HP8.out.2⟩
            case rest =>
            obtain ⟨rfl, HP9, HX9⟩ := hcut
            clear HFin HNw HN1 HN2 HL1 HL2 HO1 HO2 HK l3 HV6 hs1 hs2 HBa
            obtain ⟨v9, hR9, hkt9, hv9, hf9⟩ := HP9.out
            obtain ⟨av9, cv9, rfl, rv9, mv9⟩ := hR9.isSl
            have HRk9 := hid hR9
            have HV9 := hid hv9
            have HKt9 := hid hkt9
            have HF19 := hid hf9
            have HBa9 := hid hR9.bare
            clear HP9 hR9 hv9 hf9 hkt9
            obtain ⟨n9, hN9⟩ : ∃ n9, (qs1.eraseIdx o).length = n9 := ⟨_, rfl⟩
            have hn9 : n9 ≤ 4999 := by have := HlE.out; omega
            rw [hN9] at rv9 HRk9 HV9 HBa9 HKt9
            clear HlE hN hw1 hon hod hol hol2 ob
            go_wp2_with fail
            have hln : n9 + 1 ≤ 5000 := by omega
            have HK := hid fun (W : World) (hb : Below wc.heap.size wc W) => (⟨(HRk9.out.below hb).cells.2.2.1, (HRk9.out.below hb).cells.2.2.2, frozen_of_row _ _ 3 _ _ (HRk9.out.below hb).var⟩ : W.cell? ⟨B, 2, none⟩ = some (.int .i64 tn) ∧ W.cell? ⟨B, 3, none⟩ = some (.slice av9 n9 cv9) ∧ W.frozen? ⟨B, 3, none⟩ = false)
            have HNw := hid fun (W : World) (hb : Below wc.heap.size wc W) => (HRk9.out.below hb).news
            have HLq : Hid ((flatM (qs1.eraseIdx o)).length = n9 * 3) := by unfold Hid; rw [flatM_len, hN9]
            have HOn := hid (flatM_one (qs1.eraseIdx o))
            have HFin : Hid (∀ (base : Nat) (v7 : Value) (W7 : World), wc.heap.size ≤ base → W7.ownsRow base 45 3 v7 (0 + n9 + 1) ([] ++ flatM (qs1.eraseIdx o) ++ [.slice p3 K d3, .int .u64 x, .int .i64 tn]) → Below wc.heap.size wc W7 → (RunP pg tn x ts sz (j + 1) qs ((qs1.eraseIdx o) ++ [q]) (c + 1) ∧ ((qs1.eraseIdx o) ++ [q]).length ≤ pg ∧ PutW w B pg sz tn v qs ((qs1.eraseIdx o) ++ [q]) (W7.setCell ⟨B, 3, none⟩ v7)) ∧ (W7.setCell ⟨B, 3, none⟩ v7).cell? ⟨B, 1, none⟩ = some (.int .i64 sz) ∧ (W7.setCell ⟨B, 3, none⟩ v7).cell? ⟨B, 2, none⟩ = some (.int .i64 tn)) := by
              intro base v7 W7 hba hO7 hb7
              obtain ⟨f1, f2, f3, f4, f5, f6⟩ := HQf.out
              obtain ⟨y1, y2, y3, y4⟩ := HRk9.out.more hb7 (base := base) (q := q) (by rw [hN9, f4, f5, f6, f2, f3]; simpa using hO7) hba (HX9.out.below hb7) (by rw [hN9]; exact hln)
              refine ⟨⟨HU2.out.1, HU2.out.2, PutW.step HKt9.out HV9.out HF19.out y1 y3 (fun b hb => .inr (y4 b hb)) fun y hy p hp => ?_⟩, y1.cells.2.1, y1.cells.2.2.1⟩
              rcases List.mem_append.1 hy with hy | hy
              · exact .inl ⟨y, hy, hp⟩
              · simp at hy
                rw [hy, f4] at hp
                exact .inr (HXo.out p hp)
            have HV5 : Hid (Below wc.heap.size wc wc.drew) := (Below.refl _ _).drew
            have HA5 := hid fun (o : Obj) => ((Below.refl wc.heap.size wc).alloc (Nat.le_refl _) o).drew
            have HUa := hid fun (W : World) (hb : Below wc.heap.size wc W) (o : Obj) => hb.alloc hb.size o
            have HCn := hid fun (o : Obj) => (heap_alloc_new wc o : (wc.alloc o).drew.heap[wc.heap.size]? = some o)
            have l2 : wc.cell? ⟨B, 2, none⟩ = some (.int .i64 tn) := (HK.out _ HV5.out).1
            have l2a : ∀ o : Obj, (wc.alloc o).cell? ⟨B, 2, none⟩ = some (.int .i64 tn) := fun o => (HK.out _ (HA5.out o)).1
            have l3 : wc.cell? ⟨B, 3, none⟩ = some (.slice av9 n9 cv9) := (HK.out _ HV5.out).2.1
            have l3a : ∀ o : Obj, (wc.alloc o).cell? ⟨B, 3, none⟩ = some (.slice av9 n9 cv9) := fun o => (HK.out _ (HA5.out o)).2.1
            clear HRk9 HX9 HF19 HV9 HKt9 HU2 hN9
            go_region_law
              (first
                | (refine step_append17 (by rfl) 135 (by rfl) (.const (.slice none 0 0)) (.tmp 134) 28 (by rfl) wc.heap.size 45 j0 (.agg #[.slice none 0 0, .int .u64 0, .int .i64 0]) 3 40 Try.undMa ji jz0 jz1 jz2 rfl (by decide) (by decide) _ 0 [] (by rfl) (World.ownsRow_nil _ _ _ _) av9 n9 cv9 (flatM (qs1.eraseIdx o)) (by rfl) HBa9.out HLq.out (HNw.out _ HV5.out) HOn.out (by omega) HV5.out.size ?_; intro v6 w6 hO6 hb6; have HW6 := hid (HV5.out.trans hb6); have HO6 := hid hO6; have m2 := (HK.out _ HW6.out).1; have HZ6 := hid (Nat.le_refl wc.heap.size); clear hO6 hb6)
                | (refine step_append17 (by rfl) 135 (by rfl) (.const (.slice none 0 0)) (.tmp 134) 28 (by rfl) (wc.heap.size + 1) 45 j0 (.agg #[.slice none 0 0, .int .u64 0, .int .i64 0]) 3 40 Try.undMa ji jz0 jz1 jz2 rfl (by decide) (by decide) _ 0 [] (by rfl) (World.ownsRow_nil _ _ _ _) av9 n9 cv9 (flatM (qs1.eraseIdx o)) (by rfl) HBa9.out HLq.out (HNw.out _ (HA5.out _)) HOn.out (by omega) (by simp) ?_; intro v6 w6 hO6 hb6; have HW6 := hid ((HA5.out _).trans (hb6.mono (Nat.le_succ _))); have HO6 := hid hO6; have m2 := (HK.out _ HW6.out).1; have HZ6 := hid (Nat.le_succ wc.heap.size); have HZs := hid (Nat.le_trans (by simp : wc.heap.size + 1 ≤ (wc.alloc _).drew.heap.size) hb6.size); have HC6 := hid ((hb6.block _ (Nat.lt_succ_self _)).trans (HCn.out _)); clear hO6 hb6)
                | (refine step_append17 (by rfl) 144 (by rfl) (.tmp 135) (.tmp 143) 28 (by rfl) _ 45 j0 (.agg #[.slice none 0 0, .int .u64 0, .int .i64 0]) 3 40 Try.undMa ji jz0 jz1 jz2 rfl (by decide) (by decide) v6 (0 + n9) ([] ++ flatM (qs1.eraseIdx o)) (by rfl) (HO6.out.alloc _) (some ⟨w6.heap.size, 0, none⟩) 1 1 [.slice p3 K d3, .int .u64 x, .int .i64 tn] (by rfl) (fun e => by cases e) rfl (fun b hb => by cases hb; exact World.news_of_block (heap_alloc_new w6 _)) (by simp [Value.oneCell']) (by omega) (HUa.out _ HW6.out _).size ?_; intro v7 w7 hO7 hb7; obtain ⟨g7, e7, rfl⟩ := own_some17 hO7 (by omega); have HW7 := hid ((HUa.out _ HW6.out _).trans hb7); have HO7 := hid hO7; have s3 := (HK.out _ HW7.out).2.1; have s4 := (HK.out _ HW7.out).2.2; have HE7 := hid (HFin.out _ _ _ HZ6.out HO7.out HW7.out); clear hO7 hb7)
                | (refine step_append17 (by rfl) 144 (by rfl) (.tmp 135) (.tmp 143) 28 (by rfl) _ 45 j0 (.agg #[.slice none 0 0, .int .u64 0, .int .i64 0]) 3 40 Try.undMa ji jz0 jz1 jz2 rfl (by decide) (by decide) v6 (0 + n9) ([] ++ flatM (qs1.eraseIdx o)) (by rfl) HO6.out (some ⟨wc.heap.size, 0, none⟩) 1 1 [.slice p3 K d3, .int .u64 x, .int .i64 tn] (by rfl) (fun e => by cases e) rfl (fun b hb => by cases hb; exact World.news_of_block HC6.out) (by simp [Value.oneCell']) (by omega) HZs.out ?_; intro v7 w7 hO7 hb7; obtain ⟨g7, e7, rfl⟩ := own_some17 hO7 (by omega); have HW7 := hid (HW6.out.trans (hb7.mono HZ6.out)); have HO7 := hid hO7; have s3 := (HK.out _ HW7.out).2.1; have s4 := (HK.out _ HW7.out).2.2; have HE7 := hid (HFin.out _ _ _ HZ6.out HO7.out HW7.out); clear hO7 hb7)
                | fail)
            all_goals
              have e1 := HE7.out.2.1
              have HS2 := hid HE7.out.1
              rw [Nat.zero_add] at e1 HS2
              clear HE7 HO7 HO6 HW6 HW7 HFin HK HNw HA5 HUa HCn l2 l2a l3 l3a m2 s3 s4
            all_goals
              go_wp2_with fail
              go_round
              case rel => exact ⟨j + 1, K + sz, _, c + 1, HK2.out, HJs.out hle, by have := HCj.out; omega, by go_num, by go_num, HS2⟩
              case measure => simp [intOf]; omega
  · have hq : (nt : Int) < (K : Int) := by omega
    have HPp : Hid (PutP pg tn x ts sz qs qs1 c) := .inl (by rw [zt, HNj.out (by omega)]; exact HRun.out)
    have HEE := hid (HEx.out qs1 c wr HPp.out hE HS.out.2.2)
    clear HNj HT hR hv1 hf1 hkt HS HRun HPp HEx
    go_wp2
    go_ret
    exact HEE.out
end Go.Proofs.Ytdchoegaindnbaa
