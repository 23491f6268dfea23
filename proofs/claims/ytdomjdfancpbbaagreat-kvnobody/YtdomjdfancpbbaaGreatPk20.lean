/-
  KvRef5: The document's side of layer 14: contract of Put.
-/
import Derived.Test.YtdomjdfancpbbaaGreatPk19
import Derived.Deep.DeepCutAuto
namespace Go.Proofs.YtdomjdfancpbbaaGreat
open Go.RowKit
set_option linter.unusedVariables false
set_option maxRecDepth 1000000
variable {P : Nat → Prop}

theorem own_bln' {base n : Nat} {v : Value} {w : World} {xs : List Value} (h : w.ownsRow base 3 1 v n xs) : ∀ a l c, v = .slice a l c → BlN w a := by
  rintro a l c rfl p rfl
  rcases id h.2 with ⟨hv, _⟩ | ⟨g, cap, cur, hv, _, hg, _⟩
  · cases hv
  · cases hv; exact ⟨cur, (0, 0), hg⟩
theorem RcAtP.bare {W : World} {B : Nat} {pg sz tm : Int} {av : Option Addr} {n cv : Nat} {qs : List Hu} {es : List En} (h : RcAtP P W B pg sz tm (.slice av n cv) qs es) : av = none → n = 0 ∧ cv = 0 := by
  rintro rfl
  rcases id h.own.2 with ⟨hv, _⟩ | ⟨g, cap, cur, hv, _⟩
  · cases hv; exact ⟨rfl, rfl⟩
  · cases hv
theorem RcAtP.news {W : World} {B : Nat} {pg sz tm : Int} {av : Option Addr} {n cv : Nat} {qs : List Hu} {es : List En} (h : RcAtP P W B pg sz tm (.slice av n cv) qs es) : ∀ b, av = some b → ∀ j u, (flatE qs)[j]? = some u → W.cell? (b.add j) = some u := by
  rintro b rfl
  rcases id h.own.2 with ⟨hv, _⟩ | ⟨g, cap, cur, hv, _⟩
  · cases hv
  · cases hv; exact h.own.cells (g := g) rfl
theorem own_some {base e size n : Nat} {v : Value} {xs : List Value} {w : World} (h : w.ownsRow base e size v n xs) (hn : 0 < n) : ∃ g c, v = .slice (some ⟨g, 0, none⟩) n c := by
  rcases id h.2 with ⟨_, h0⟩ | ⟨g, cap, cur, hv, _⟩
  · omega
  · exact ⟨g, cap, hv⟩
theorem own_sl {base e size n : Nat} {v : Value} {xs : List Value} {w : World} (h : w.ownsRow base e size v n xs) : ∃ a c, v = .slice a n c := by
  rcases id h.2 with ⟨hv, h0⟩ | ⟨g, cap, cur, hv, _⟩
  · exact ⟨none, 0, by rw [hv, h0]⟩
  · exact ⟨_, cap, hv⟩
/-- The entries' slice cut to its first ones, and to those behind one. -/
theorem cutE_to (g n cap m : Nat) (hm : m ≤ cap) (W : World) :
    (Instr.sliceAt 30 (.slice (some ⟨g, 0, none⟩) n cap) none (some (.int .i64 (m : Int))) none).run Tryz.prog W = .ok (.slice (some ⟨g, 0, none⟩) m cap) W := by
  obtain ⟨j0, ji, jz0, jz1, jz2⟩ := info_parts Tryz.infoEn
  have h1 : (Instr.sliceBound (.int .i64 (m : Int)) cap .sliceAcap).run Tryz.prog W = .ok m W := by
    rw [run_sliceBound W .i64 (m : Int) cap _ (by omega) (by omega)]; simp
  simp [Instr.sliceAt, Instr.slice, run_underlying Tryz.undEn, Instr.sliceBounds, h1, sizeOf, typeInfo, ji, Addr.add]
theorem cutE_from (g n cap m : Nat) (hm : m + 1 ≤ n) (hc : n ≤ cap) : ∃ A : Addr, (∀ W : World,
    (Instr.sliceAt 30 (.slice (some ⟨g, 0, none⟩) n cap) (some (.int .i64 ((m : Int) + 1))) none none).run Tryz.prog W = .ok (.slice (some A) (n - (m + 1)) (cap - (m + 1))) W) ∧ (m + 1 < n → A = ⟨g, (m + 1) * 2, none⟩) := by
  obtain ⟨j0, ji, jz0, jz1, jz2⟩ := info_parts Tryz.infoEn
  have h1 : ∀ W : World, (Instr.sliceBound (.int .i64 ((m : Int) + 1)) n .sliceB).run Tryz.prog W = .ok (m + 1) W := fun W => by
    rw [run_sliceBound W .i64 ((m : Int) + 1) n _ (by omega) (by omega)]; congr 1
  refine ⟨if cap - (m + 1) = 0 then ⟨g, 0, none⟩ else ⟨g, (m + 1) * 2, none⟩, fun W => ?_, fun h => by rw [if_neg (by omega)]⟩
  simp [Instr.sliceAt, Instr.slice, run_underlying Tryz.undEn, Instr.sliceBounds, h1, sizeOf, typeInfo, ji, jz1, Addr.add]
  split <;> simp_all <;> omega
/-- Between the rounds of Put. -/
def PutAtP (P : Nat → Prop) (w : World) (B : Nat) (pg sz tn : Int) (v : Value) (es : List En) (W : World) : Prop :=
  ∃ v' qs', RcAtP P W B pg sz tn v' qs' es ∧ (∀ b, v'.ownBlock = some b → v.ownBlock = some b ∨ w.heap.size ≤ b) ∧ KpI w W ∧ Fb (rcF B v) w W
theorem PutAtP.below {w W W' : World} {B : Nat} {pg sz tn : Int} {v : Value} {es : List En} (h : PutAtP P w B pg sz tn v es W) (hb : Below W.heap.size W W') : PutAtP P w B pg sz tn v es W' := by
  obtain ⟨v', qs', h1, h2, h3, h4⟩ := h
  exact ⟨v', qs', h1.below hb, h2, h3.trans (KpI.of hb), h4.below hb⟩
/-- One more call's part. -/
theorem PutAtP.step {w W W' : World} {B : Nat} {pg sz tn : Int} {v v1 v2 : Value} {qs2 : List Hu} {es : List En} (k1 : ∀ b, v1.ownBlock = some b → v.ownBlock = some b ∨ w.heap.size ≤ b) (k2 : KpI w W) (k3 : Fb (rcF B v) w W) (h1 : RcAtP P W' B pg sz tn v2 qs2 es) (h2 : KpI W W') (h3 : Fb (rcF B v1) W W') (h4 : ∀ b, v2.ownBlock = some b → v1.ownBlock = some b ∨ W.heap.size ≤ b) : PutAtP P w B pg sz tn v es W' := by
  refine ⟨v2, qs2, h1, fun b hb => ?_, k2.trans h2, k3.trans h3 fun x hx => ?_⟩
  · rcases h4 b hb with h | h
    · exact k1 b h
    · exact .inr (Nat.le_trans k3.size h)
  · rcases hx with rfl | hx
    · exact .inl (.inl rfl)
    · rcases k1 x hx with h | h
      · exact .inl (.inr h)
      · exact .inr h
set_option maxHeartbeats 4000000 in
theorem rput_any {B : Nat} {pg : Int} {sz : Nat} {tm : Int} {v : Value} {qs : List Hu} {es : List En} (a : Option Addr) (nt cap : Nat) (ts : List Int) (w : World) (h : RcAtP P w B pg sz tm v qs es) (ht : Reads .i64 w a nt cap ts) (hta : BlN w a) (hn : nt ≤ 1000) (h0 : 0 ≤ tm) (h1 : tm ≤ 100000) (hs : 1 ≤ sz) (hs2 : sz ≤ 1000) (hp : pg ≤ 1000) (hl : (es.length : Int) ≤ pg) (hP : ∀ k, w.heap.size ≤ k → P k) :
    Calls Tryz.prog 20 #[.pointer (some ⟨B, 0, none⟩), .slice a nt cap] w fun e w' => e = .returned (.int .i64 (putK pg (tm + 1) sz ts es (nt / sz)).2.1) ∧ PutAtP P w B pg sz (tm + 1) v (putK pg (tm + 1) sz ts es (nt / sz)).1 w' := by
  have HPw := hid hP
  clear hP
  obtain ⟨i0, hi, hz0, hz1, hz2⟩ := info_parts Tryz.info3
  obtain ⟨j0, ji, jz0, jz1, jz2⟩ := info_parts Tryz.infoEn
  obtain ⟨t0, t1, t2⟩ := h.time (tm + 1)
  obtain ⟨c0, c1, c2, c3⟩ := h.cells
  have fB := frozen_of_row _ _ 2 _ _ h.var
  have HT := hid fun (W : World) (hk : KpI w W) => ht.kpi hta hk
  have zt := ht.size
  have rt := ht.room
  have mt := ht.most
  have HS0 : Hid (PutAtP P w B pg sz (tm + 1) v es (w.setCell ⟨B, 2, none⟩ (.int .i64 (tm + 1)))) := PutAtP.step (fun _ h => .inl h) (KpI.refl _) (Fb.refl _ _) t0 t1 t2 fun _ h => .inl h
  have HEl := hid fun (j : Nat) => putK_len (pg := pg) (tm := tm + 1) (sz := sz) (ts := ts) (es := es) hl j
  have HNb := hid fun (j : Nat) => putK_new pg (tm + 1) sz ts es j
  have HUse := hid fun (j : Nat) (hs : (putK pg (tm + 1) sz ts es j).2.2 = false) (p : Nat) (hp : plcZ (putK pg (tm + 1) sz ts es j).1 (ts.take ((j + 1) * sz)) = (p : Int)) => putK_use hs rfl hp
  have HAdd := hid fun (j : Nat) (hs : (putK pg (tm + 1) sz ts es j).2.2 = false) (hp : plcZ (putK pg (tm + 1) sz ts es j).1 (ts.take ((j + 1) * sz)) < 0) (hl : ((putK pg (tm + 1) sz ts es j).1.length : Int) < pg) => putK_add hs rfl hp hl
  have HSwap := hid fun (j : Nat) (hs : (putK pg (tm + 1) sz ts es j).2.2 = false) (hp : plcZ (putK pg (tm + 1) sz ts es j).1 (ts.take ((j + 1) * sz)) < 0) (hl : pg ≤ ((putK pg (tm + 1) sz ts es j).1.length : Int)) (o : Nat) (ho : oldK (putK pg (tm + 1) sz ts es j).1 ts (putK pg (tm + 1) sz ts es j).1.length = (o : Int)) => putK_swap hs rfl hp hl ho
  have HStop := hid fun (j : Nat) (hs : (putK pg (tm + 1) sz ts es j).2.2 = false) (hp : plcZ (putK pg (tm + 1) sz ts es j).1 (ts.take ((j + 1) * sz)) < 0) (hl : pg ≤ ((putK pg (tm + 1) sz ts es j).1.length : Int)) (ho : oldK (putK pg (tm + 1) sz ts es j).1 ts (putK pg (tm + 1) sz ts es j).1.length < 0) => putK_stop hs rfl hp hl ho
  have HStay := hid fun (j d : Nat) (hs : (putK pg (tm + 1) sz ts es j).2.2 = true) => putK_stay hs d
  have HP0 : Hid (putK pg (tm + 1) sz ts es 0 = (es, 0, false)) := rfl
  clear h ht hta t0 t1 t2 hl
  obtain ⟨U, hU⟩ : ∃ U : Nat → List En × Int × Bool, U = putK pg (tm + 1) sz ts es := ⟨_, rfl⟩
  rw [← hU] at HEl HNb HUse HAdd HSwap HStop HStay HP0 ⊢
  clear hU
  obtain ⟨tn, htn⟩ : ∃ tn : Int, tm + 1 = tn := ⟨_, rfl⟩
  rw [htn] at HS0 HUse HAdd HSwap ⊢
  have htb : 0 ≤ tn ∧ tn ≤ 100001 := by omega
  have hwt : IntKind.i64.wrap (tm + 1) = tn := by rw [htn]; exact wrap64_in (by omega) (by omega)
  obtain ⟨w0, hw0⟩ : ∃ w0, w0 = w.setCell ⟨B, 2, none⟩ (.int .i64 tn) := ⟨_, rfl⟩
  rw [← hw0] at HS0
  have d1 : w0.cell? ⟨B, 1, none⟩ = some (.int .i64 sz) := by
    obtain ⟨_, _, hR, _⟩ := HS0.out
    exact hR.cells.2.1
  go_enter Tryz.func20, Tryz.ntmps20
  go_wp2_with fail
  try rw [htn]
  try rw [← hw0]
  clear hw0 c0 c1 c2 c3 fB d1
  go_loopw [5, 6] (fun x y W => ∃ j K : Nat, K = (j + 1) * sz ∧ j * sz ≤ nt ∧ x = .int .i64 (U j).2.1 ∧ y = .int .i64 K ∧ Hid ((U j).2.2 = false) ∧ Hid (PutAtP P w B pg sz tn v (U j).1 W)) (fun _ y _ => nt + 1 + sz - (intOf y).toNat)
  case atStart => exact ⟨0, sz, by omega, by omega, by rw [HP0.out], rfl, by rw [HP0.out]; exact rfl, by rw [HP0.out]; exact HS0⟩
  case round =>
  obtain ⟨j, K, hK, hj, rfl, rfl, HJ, HS⟩ := hrel
  rename World => wr
  clear HS0 HP0
  obtain ⟨v1, qs1, hR, hv1, hk1, hf1⟩ := HS.out
  have hK2 : K + sz = (j + 1 + 1) * sz := by rw [hK, Nat.add_mul (j + 1) 1 sz]; omega
  have hK3 : K = j * sz + sz := by rw [hK, Nat.add_mul]; omega
  have nb := HNb.out j
  have HNj : Hid (nt < K → nt / sz = j) := fun hlt => by
    rw [Nat.div_eq_iff (by omega)]
    omega
  have hK4 : 1 ≤ K ∧ K ≤ nt + sz := by omega
  have hjn : (U j).2.1 ≤ 1000 := by
    have : j ≤ j * sz := Nat.le_mul_of_pos_right j (by omega)
    omega
  have HKe := hid hK
  have HK2 := hid hK2
  have HJs : Hid (K ≤ nt → (j + 1) * sz ≤ nt) := fun h => by rw [← hK]; exact h
  clear hK hK2 hK3 hj
  by_cases hle : K ≤ nt
  · have hq : (K : Int) ≤ (nt : Int) := by omega
    obtain ⟨hTr, hTa⟩ := HT.out wr hk1
    obtain ⟨b, off, hab, _⟩ := hTr.cell 0 (by omega)
    subst hab
    have HTk := hid (hTr.cut hle)
    have HV := hid hv1
    have HRk := hid hR
    have HK1 := hid hk1
    have HF1 := hid hf1
    have HNe : Hid (∀ W : World, W.ownsRow wr.heap.size 3 1 (.slice none 0 0) 0 (([] : List Int).map (Value.int .i64))) := fun W => World.ownsRow_nil _ _ _ _
    clear HNj hTr hTa hR hv1 hk1 hf1
    go_wp2_with (at_builtin; refine append_any _ rfl (.const (.slice none 0 0)) (.tmp 34) 34 rfl wr.heap.size 3 i0 (.int .i64 0) 8 Tryz.underlying34 hi hz0 hz1 hz2 rfl .i64 _ 0 [] rfl (HNe.out _) _ K cap (ts.take K) rfl HTk.out (by omega) (by omega) (Nat.le_refl _) ?_; intro v3 w3 hO3 hb3)
    rw [Nat.zero_add, List.nil_append] at hO3
    have hB3 := own_bln' hO3
    obtain ⟨p3, d3, rfl, hr3⟩ := Reads.own (k := .i64) hO3
    replace hB3 := hB3 _ _ _ rfl
    have HXo : Hid (∀ p, p3 = some p → P p.block) := fun p hp => HPw.out _ (Nat.le_trans HF1.out.size (hO3.lt p.block (by rw [hp]; rfl)).1)
    have HPl := hid (rplace_any p3 K d3 (ts.take K) w3 (HRk.out.below hb3) hr3 (by omega))
    have hr3s := hr3.size
    have hr3r := hr3.room
    have hr3m := hr3.most
    have HX3 := hid hr3
    have HY3 := hid hB3
    have HB3 := hid hb3
    replace HUse := hid (HUse.out j HJ.out)
    replace HAdd := hid (HAdd.out j HJ.out)
    replace HSwap := hid (HSwap.out j HJ.out)
    replace HStop := hid (HStop.out j HJ.out)
    rw [← HKe.out] at HUse HAdd HSwap HStop
    have hE := HEl.out j
    obtain ⟨pz, hpz⟩ : ∃ pz, pz = plcZ (U j).1 (ts.take K) := ⟨_, rfl⟩
    rw [← hpz] at HPl HUse HAdd HSwap HStop
    clear hpz HTk hO3 hr3 hB3 hb3 HNe HEl
    refine HPl.out.mono ?_
    rintro e w4 ⟨rfl, hb4⟩
    have HB4 := hid (HB3.out.trans (hb4.mono HB3.out.size))
    replace HX3 := hid (HX3.out.below hb4)
    replace HY3 := hid (HY3.out.below hb4)
    replace HRk := hid (HRk.out.below HB4.out)
    replace HK1 := hid (HK1.out.trans (KpI.of HB4.out))
    replace HF1 := hid (HF1.out.below HB4.out)
    clear HB3 hb4 HPl
    by_cases hpos : 0 ≤ pz
    · obtain ⟨q, rfl⟩ : ∃ q : Nat, pz = (q : Int) := ⟨pz.toNat, by omega⟩
      obtain ⟨hU2, hql⟩ := HUse.out q rfl
      obtain ⟨g, cv, cur, hv, hg, rv, mv⟩ := HRk.out.isSome hql
      subst hv
      obtain ⟨x1, x2, x3⟩ := HRk.out.use hql tn
      obtain ⟨c0, c1, c2, c3⟩ := HRk.out.cells
      have cu := (HRk.out.at hql).2
      have fu : w4.frozen? ⟨g, q * 2 + 1, none⟩ = false := frozen_of_row _ _ _ _ _ hg
      have e1 := x1.cells.2.1
      have HS2 : Hid (PutAtP P w B pg sz tn v (U (j + 1)).1 (w4.setCell ⟨g, q * 2 + 1, none⟩ (.int .i64 tn))) := by
        rw [hU2]
        exact PutAtP.step HV.out HK1.out HF1.out x1 x2 x3 fun b hb => .inl hb
      have HN2 : Hid ((U (j + 1)).2.1 = (U j).2.1) := by unfold Hid; rw [hU2]
      have HJ2 : Hid ((U (j + 1)).2.2 = false) := by unfold Hid; rw [hU2]
      obtain ⟨n, hN⟩ : ∃ n, (U j).1.length = n := ⟨_, rfl⟩
      rw [hN] at hql c3 rv hE
      have q1 : (q : Int) < (n : Int) := by omega
      clear hU2 hg cur x1 x2 x3 HUse HAdd HSwap HStop HStay HT HNb HRk HK1 HF1 HX3 HY3 HB4 HV HS hN
      go_wp2_with fail
      go_region
      go_wp2_with fail
      go_round
      case rel => exact ⟨j + 1, K + sz, HK2.out, HJs.out hle, by rw [HN2.out], by go_num, HJ2, HS2.out.below (Below.refl _ _).drew⟩
      case measure => simp [intOf]; omega
    · obtain ⟨av, cv, rfl, rv, mv⟩ := HRk.out.isSl
      obtain ⟨c0, c1, c2, c3⟩ := HRk.out.cells
      have HBa := hid HRk.out.bare
      obtain ⟨n, hN⟩ : ∃ n, (U j).1.length = n := ⟨_, rfl⟩
      rw [hN] at c3 rv hE HBa HAdd HSwap HStop HRk HV
      have hneg : pz < 0 := by omega
      replace HAdd := hid (HAdd.out hneg)
      replace HSwap := hid (HSwap.out hneg)
      replace HStop := hid (HStop.out hneg)
      clear HUse HS
      by_cases hful : (n : Int) < pg
      · have HU2 := hid (HAdd.out hful)
        have hfl : ¬ pg ≤ (n : Int) := by omega
        have hfd : decide (pg ≤ (n : Int)) = false := by simp; omega
        clear HAdd HSwap HStop HStay HT HNb hpos
        go_wp2_with fail
        go_quiet (fail)
        go_wp2_with fail
        have hb5 : Below w4.heap.size w4 (w4.drewN nq) := ⟨rfl, rfl, rfl, Nat.le_refl _, fun _ _ => rfl⟩
        replace HRk := hid (HRk.out.below hb5)
        replace HX3 := hid (HX3.out.below hb5)
        replace HY3 := hid (HY3.out.below hb5)
        replace HK1 := hid (HK1.out.trans (KpI.of hb5))
        replace HF1 := hid (HF1.out.below hb5)
        clear HB4 hb5 c0 c1 c2 c3
        generalize w4.drewN nq = w5 at *
        have hln : n + 1 ≤ 1000 := by omega
        have hxl : (ts.take K).length ≤ 1000 := by omega
        have HK := hid fun (W : World) (hb : Below w5.heap.size w5 W) => (⟨(HRk.out.below hb).cells.2.2.1, (HRk.out.below hb).cells.2.2.2, frozen_of_row _ _ 3 _ _ (HRk.out.below hb).var⟩ : W.cell? ⟨B, 2, none⟩ = some (.int .i64 tn) ∧ W.cell? ⟨B, 3, none⟩ = some (.slice av n cv) ∧ W.frozen? ⟨B, 3, none⟩ = false)
        have HNw := hid fun (W : World) (hb : Below w5.heap.size w5 W) => (HRk.out.below hb).news
        have HLq : Hid ((flatE qs1).length = n * 2) := by unfold Hid; rw [flatE_len, HRk.out.len, hN]
        have HOn := hid (flatE_one qs1)
        have HFin : Hid (∀ (base : Nat) (v7 : Value) (W7 : World), w5.heap.size ≤ base → W7.ownsRow base 48 2 v7 (0 + n + 1) ([] ++ flatE qs1 ++ [.slice p3 K d3, .int .i64 tn]) → Below w5.heap.size w5 W7 → PutAtP P w B pg sz tn v (U (j + 1)).1 (W7.setCell ⟨B, 3, none⟩ v7) ∧ (W7.setCell ⟨B, 3, none⟩ v7).cell? ⟨B, 1, none⟩ = some (.int .i64 sz) ∧ (W7.setCell ⟨B, 3, none⟩ v7).cell? ⟨B, 2, none⟩ = some (.int .i64 tn)) := by
          intro base v7 W7 hba hO7 hb7
          obtain ⟨y1, y2, y3, y4⟩ := HRk.out.more hb7 (base := base) (x := ts.take K) (u := tn) (by rw [hN]; simpa using hO7) hba (HX3.out.below hb7) (HY3.out.below hb7) hxl (by rw [hN]; exact hln) HXo.out
          refine ⟨?_, y1.cells.2.1, y1.cells.2.2.1⟩
          rw [HU2.out]
          exact PutAtP.step HV.out HK1.out HF1.out y1 y2 y3 fun b hb => .inr (y4 b hb)
        have HN2 : Hid ((U (j + 1)).2.1 = (U j).2.1 + 1) := by unfold Hid; rw [HU2.out]
        have HJ2 : Hid ((U (j + 1)).2.2 = false) := by unfold Hid; rw [HU2.out]
        have HV5 : Hid (Below w5.heap.size w5 w5.drew) := (Below.refl _ _).drew
        have HA5 := hid fun (o : Obj) => ((Below.refl w5.heap.size w5).alloc (Nat.le_refl _) o).drew
        have HUa := hid fun (W : World) (hb : Below w5.heap.size w5 W) (o : Obj) => hb.alloc hb.size o
        have HCn := hid fun (o : Obj) => (heap_alloc_new w5 o : (w5.alloc o).drew.heap[w5.heap.size]? = some o)
        have l2 : w5.cell? ⟨B, 2, none⟩ = some (.int .i64 tn) := (HK.out _ HV5.out).1
        have l2a : ∀ o : Obj, (w5.alloc o).cell? ⟨B, 2, none⟩ = some (.int .i64 tn) := fun o => (HK.out _ (HA5.out o)).1
        have l3 : w5.cell? ⟨B, 3, none⟩ = some (.slice av n cv) := (HK.out _ HV5.out).2.1
        have l3a : ∀ o : Obj, (w5.alloc o).cell? ⟨B, 3, none⟩ = some (.slice av n cv) := fun o => (HK.out _ (HA5.out o)).2.1
        clear HRk HX3 HY3 HK1 HF1 HV HU2 hN
        go_region_law
          (first
            | (refine step_append_row (by rfl) 137 (by rfl) (.const (.slice none 0 0)) (.tmp 136) 30 (by rfl) w5.heap.size 48 j0 (.agg #[.slice none 0 0, .int .i64 0]) 2 32 Tryz.undEn ji jz0 jz1 jz2 rfl (by decide) (by decide) _ 0 [] (by rfl) (World.ownsRow_nil _ _ _ _) av n cv (flatE qs1) (by rfl) HBa.out HLq.out (HNw.out _ HV5.out) HOn.out (by omega) HV5.out.size ?_; intro v6 w6 hO6 hb6; have HW6 := hid (HV5.out.trans hb6); have HO6 := hid hO6; have m2 := (HK.out _ HW6.out).1; have HZ6 := hid (Nat.le_refl w5.heap.size); clear hO6 hb6)
            | (refine step_append_row (by rfl) 137 (by rfl) (.const (.slice none 0 0)) (.tmp 136) 30 (by rfl) (w5.heap.size + 1) 48 j0 (.agg #[.slice none 0 0, .int .i64 0]) 2 32 Tryz.undEn ji jz0 jz1 jz2 rfl (by decide) (by decide) _ 0 [] (by rfl) (World.ownsRow_nil _ _ _ _) av n cv (flatE qs1) (by rfl) HBa.out HLq.out (HNw.out _ (HA5.out _)) HOn.out (by omega) (by simp) ?_; intro v6 w6 hO6 hb6; have HW6 := hid ((HA5.out _).trans (hb6.mono (Nat.le_succ _))); have HO6 := hid hO6; have m2 := (HK.out _ HW6.out).1; have HZ6 := hid (Nat.le_succ w5.heap.size); have HZs := hid (Nat.le_trans (by simp : w5.heap.size + 1 ≤ (w5.alloc _).drew.heap.size) hb6.size); have HC6 := hid ((hb6.block _ (Nat.lt_succ_self _)).trans (HCn.out _)); clear hO6 hb6)
            | (refine step_append_row (by rfl) 145 (by rfl) (.tmp 137) (.tmp 144) 30 (by rfl) _ 48 j0 (.agg #[.slice none 0 0, .int .i64 0]) 2 32 Tryz.undEn ji jz0 jz1 jz2 rfl (by decide) (by decide) v6 (0 + n) ([] ++ flatE qs1) (by rfl) (HO6.out.alloc _) (some ⟨w6.heap.size, 0, none⟩) 1 1 [.slice p3 K d3, .int .i64 tn] (by rfl) (fun e => by cases e) rfl (fun b hb => by cases hb; exact World.news_of_block (heap_alloc_new w6 _)) (by simp [Value.oneCell']) (by omega) (HUa.out _ HW6.out _).size ?_; intro v7 w7 hO7 hb7; obtain ⟨g7, e7, rfl⟩ := own_some hO7 (by omega); have HW7 := hid ((HUa.out _ HW6.out _).trans hb7); have HO7 := hid hO7; have s3 := (HK.out _ HW7.out).2.1; have s4 := (HK.out _ HW7.out).2.2; have HE7 := hid (HFin.out _ _ _ HZ6.out HO7.out HW7.out); clear hO7 hb7)
            | (refine step_append_row (by rfl) 145 (by rfl) (.tmp 137) (.tmp 144) 30 (by rfl) _ 48 j0 (.agg #[.slice none 0 0, .int .i64 0]) 2 32 Tryz.undEn ji jz0 jz1 jz2 rfl (by decide) (by decide) v6 (0 + n) ([] ++ flatE qs1) (by rfl) HO6.out (some ⟨w5.heap.size, 0, none⟩) 1 1 [.slice p3 K d3, .int .i64 tn] (by rfl) (fun e => by cases e) rfl (fun b hb => by cases hb; exact World.news_of_block HC6.out) (by simp [Value.oneCell']) (by omega) HZs.out ?_; intro v7 w7 hO7 hb7; obtain ⟨g7, e7, rfl⟩ := own_some hO7 (by omega); have HW7 := hid (HW6.out.trans (hb7.mono HZ6.out)); have HO7 := hid hO7; have s3 := (HK.out _ HW7.out).2.1; have s4 := (HK.out _ HW7.out).2.2; have HE7 := hid (HFin.out _ _ _ HZ6.out HO7.out HW7.out); clear hO7 hb7)
            | fail)
        all_goals
          have e1 := HE7.out.2.1
          have HS2 := hid HE7.out.1
          rw [Nat.zero_add] at e1 HS2
          clear HE7 HO7 HO6 HW6 HW7 HFin HK HNw HA5 HUa HCn l2 l2a l3 l3a m2 s3 s4
        all_goals
          go_wp2_with fail
          go_round
          case rel => exact ⟨j + 1, K + sz, HK2.out, HJs.out hle, by rw [HN2.out], by go_num, HJ2, HS2⟩
          case measure => simp [intOf]; omega
      · have hfl : pg ≤ (n : Int) := by omega
        have hfd : decide (pg ≤ (n : Int)) = true := by simp; omega
        replace HSwap := hid (HSwap.out hfl)
        replace HStop := hid (HStop.out hfl)
        have HEnd : Hid (oldK (U j).1 ts n < 0 → (U (nt / sz)).2.1 = (U j).2.1 ∧ (U (nt / sz)).1 = (U j).1) := fun ho => by
          have h1 := HStop.out ho
          have h2 : j + 1 ≤ nt / sz := by rw [Nat.le_div_iff_mul_le (by omega)]; exact HJs.out hle
          have h3 := HStay.out (j + 1) (nt / sz - (j + 1)) (by rw [h1])
          rw [show j + 1 + (nt / sz - (j + 1)) = nt / sz by omega] at h3
          rw [h3, h1]
          exact ⟨rfl, rfl⟩
        have HOb := hid fun (k : Nat) => oldK_bd (U j).1 ts k
        have HO0 : Hid (oldK (U j).1 ts 0 = -1) := rfl
        have HOs : Hid (∀ k, oldK (U j).1 ts (k + 1) = if goB (U j).1 ts k && (decide (oldK (U j).1 ts k < 0) || decide ((en (U j).1 k).2 < (en (U j).1 (oldK (U j).1 ts k).toNat).2)) then (k : Int) else oldK (U j).1 ts k) := fun _ => rfl
        clear HAdd HStop HStay HNb hpos hful
        go_wp2_with fail
        go_quiet (fail)
        have hb5 : Below w4.heap.size w4 (w4.drewN nq) := ⟨rfl, rfl, rfl, Nat.le_refl _, fun _ _ => rfl⟩
        replace HRk := hid (HRk.out.below hb5)
        replace HX3 := hid (HX3.out.below hb5)
        replace HY3 := hid (HY3.out.below hb5)
        replace HK1 := hid (HK1.out.trans (KpI.of hb5))
        replace HF1 := hid (HF1.out.below hb5)
        clear HB4 hb5 c0 c1 c2 c3
        generalize w4.drewN nq = w5 at *
        have HD : Hid (∀ (W : World) (n : Nat), Hid (∃ m, W = w5.drewN m) → ∃ m, W.drewN n = w5.drewN m) := fun W n h => by obtain ⟨m, hm⟩ := h.out; exact ⟨_, by rw [hm, World.drewN_drewN]⟩
        have HH : Hid (∀ W : World, (∃ m, W = w5.drewN m) → Below w5.heap.size w5 W) := fun W ⟨m, hm⟩ => by rw [hm]; exact ⟨rfl, rfl, rfl, Nat.le_refl _, fun _ _ => rfl⟩
        obtain ⟨O, hO⟩ : ∃ O : Nat → Int, O = oldK (U j).1 ts := ⟨_, rfl⟩
        rw [← hO] at HSwap HEnd HOb HO0 HOs
        clear hO
        go_wp2_with fail
        go_loopw [9, 10] (fun o i W => ∃ k : Nat, k ≤ n ∧ i = .int .i64 k ∧ o = .int .i64 (O k) ∧ Hid (∃ m, W = w5.drewN m)) (fun _ i _ => n - (intOf i).toNat)
        case atStart => exact ⟨0, Nat.zero_le _, rfl, by rw [HO0.out], 0, rfl⟩
        case round =>
        obtain ⟨k, hk, rfl, rfl, HW⟩ := hrel
        rename World => w6
        have hR6 := HRk.out.below (HH.out _ HW.out)
        obtain ⟨c0, c1, c2, c3⟩ := hR6.cells
        have ob := HOb.out k
        clear HOb HO0
        by_cases hkn : k < n
        · have q1 : (k : Int) < (n : Int) := by omega
          obtain ⟨g, cap', cur, hv, hg, _, _⟩ := hR6.isSome (k := k) (by omega)
          have hav : av = some ⟨g, 0, none⟩ := by cases hv; rfl
          subst hav
          have ca := (hR6.at (k := k) (by omega)).1
          have cu := (hR6.at (k := k) (by omega)).2
          have Hat := hid fun (o : Nat) (ho : o < n) => (hR6.at (k := o) (by omega)).2
          have hsh := hR6.short k (by omega)
          have hbq : ∀ q, Below w6.heap.size w6 (w6.drewN q) := fun q => ⟨rfl, rfl, rfl, Nat.le_refl _, fun _ _ => rfl⟩
          have HLf := hid fun q => rleaf_any k (w6.drewN q) (hR6.below (hbq q)) (by omega)
          have HBg := hid fun q => rbegins_q _ _ _ _ (some ⟨b, off, none⟩) nt cap ts (w6.drewN q) ((hR6.below (hbq q)).rows k (by omega)) (HT.out _ ((HK1.out.trans (KpI.of (HH.out _ HW.out))).trans (KpI.of (hbq q)))).1 (by rw [← (hR6.rows k (by omega)).size]; exact hsh)
          have hOk := HOs.out k
          unfold goB at hOk
          clear HT HRk HX3 HY3 HK1 HF1 HV HSwap HEnd HOs HH hR6 hv hg cur hsh hbq hN HBa HJ HKe HK2 HJs
          generalize leafB (U j).1 k = lf at *
          generalize begB (en (U j).1 k).1 ts = bg at *
          generalize (en (U j).1 k).2 = uk at *
          generalize qe qs1 k = y at *
          obtain ⟨⟨y1, y2, y3⟩, y4⟩ := y
          simp only at ca HBg
          cases lf with
          | false =>
            have HOk : Hid (Value.int .i64 (O k) = .int .i64 (O (k + 1))) := by unfold Hid; rw [hOk]; simp
            clear hOk Hat HBg
            go_wp2_with fail
            go_quiet ((first | (go_at_call 42; exact Calls.quiet_of (HLf.out _)) | (go_at_call 34; exact Calls.quiet_of (HBg.out _))))
            go_wp2_with fail
            go_round
            case rel => exact ⟨k + 1, by omega, by go_num, HOk.out, HD.out _ _ HW⟩
            case measure => simp [intOf]; omega
          | true =>
            cases bg with
            | true =>
              have HOk : Hid (Value.int .i64 (O k) = .int .i64 (O (k + 1))) := by unfold Hid; rw [hOk]; simp
              clear hOk Hat
              go_wp2_with fail
              go_quiet ((first | (go_at_call 42; exact Calls.quiet_of (HLf.out _)) | (go_at_call 34; exact Calls.quiet_of (HBg.out _))))
              go_wp2_with fail
              go_round
              case rel => exact ⟨k + 1, by omega, by go_num, HOk.out, HD.out _ _ HW⟩
              case measure => simp [intOf]; omega
            | false =>
              by_cases ho : O k < 0
              · have hod : decide (O k < 0) = true := by simp [ho]
                have HOk : Hid (Value.int .i64 (k : Int) = .int .i64 (O (k + 1))) := by unfold Hid; rw [hOk]; simp [ho]
                clear hOk Hat
                go_wp2_with fail
                go_quiet ((first | (go_at_call 42; exact Calls.quiet_of (HLf.out _)) | (go_at_call 34; exact Calls.quiet_of (HBg.out _))))
                go_wp2_with fail
                go_round
                case rel => exact ⟨k + 1, by omega, by go_num, HOk.out, HD.out _ _ HW⟩
                case measure => simp [intOf]; omega
              · obtain ⟨o, hoe⟩ : ∃ o : Nat, O k = (o : Int) := ⟨(O k).toNat, by omega⟩
                rw [hoe] at hOk ob ⊢
                rw [Int.toNat_natCast] at hOk
                have hol : o < n := by omega
                have hol2 : (o : Int) < (n : Int) := by omega
                have hon : ¬ (o : Int) < 0 := by omega
                have hod : decide ((o : Int) < 0) = false := by simp
                have co := Hat.out o hol
                generalize (en (U j).1 o).2 = uo at *
                by_cases hu : uk < uo
                · have hud : decide (uk < uo) = true := by simp [hu]
                  have HOk : Hid (Value.int .i64 (k : Int) = .int .i64 (O (k + 1))) := by unfold Hid; rw [hOk]; simp [hu]
                  clear hOk Hat ho hoe
                  go_wp2_with fail
                  go_quiet ((first | (go_at_call 42; exact Calls.quiet_of (HLf.out _)) | (go_at_call 34; exact Calls.quiet_of (HBg.out _))))
                  go_wp2_with fail
                  go_round
                  case rel => exact ⟨k + 1, by omega, by go_num, HOk.out, HD.out _ _ HW⟩
                  case measure => simp [intOf]; omega
                · have hud : decide (uk < uo) = false := by simp; omega
                  have HOk : Hid (Value.int .i64 (o : Int) = .int .i64 (O (k + 1))) := by unfold Hid; rw [hOk]; simp [hu, hon]
                  clear hOk Hat ho hoe
                  go_wp2_with fail
                  go_quiet ((first | (go_at_call 42; exact Calls.quiet_of (HLf.out _)) | (go_at_call 34; exact Calls.quiet_of (HBg.out _))))
                  go_wp2_with fail
                  go_round
                  case rel => exact ⟨k + 1, by omega, by go_num, HOk.out, HD.out _ _ HW⟩
                  case measure => simp [intOf]; omega
        · obtain rfl : n = k := by omega
          have hb6 := HH.out _ HW.out
          replace HRk := hid hR6
          replace HX3 := hid (HX3.out.below hb6)
          replace HY3 := hid (HY3.out.below hb6)
          replace HK1 := hid (HK1.out.trans (KpI.of hb6))
          replace HF1 := hid (HF1.out.below hb6)
          clear hb6 hR6 HW HH HD HOs HT
          by_cases ho : O n < 0
          · have hod : decide (O n < 0) = true := by simp [ho]
            have HEn := hid (HEnd.out ho)
            have HQ : Hid (PutAtP P w B pg sz tn v (U j).1 w6) := ⟨_, qs1, HRk.out, HV.out, HK1.out, HF1.out⟩
            clear HEnd HSwap HRk HX3 HY3 HK1 HF1 HV
            go_wp2
            go_ret
            obtain ⟨he1, he2⟩ := HEn.out
            rw [he1, he2]
            exact ⟨rfl, HQ.out⟩
          · obtain ⟨o, hoe⟩ : ∃ o : Nat, O n = (o : Int) := ⟨(O n).toNat, by omega⟩
            have HU2 := hid (HSwap.out o hoe)
            rw [hoe] at ob ⊢
            have hol : o < n := by omega
            have hol2 : (o : Int) < (n : Int) := by omega
            have hon : ¬ (o : Int) < 0 := by omega
            have hod : decide ((o : Int) < 0) = false := by simp
            have hnb : n ≤ 1000 := by omega
            obtain ⟨g, cap', cur, hv, hg, _, _⟩ := HRk.out.isSome (k := o) (by omega)
            have hav : av = some ⟨g, 0, none⟩ := by cases hv; rfl
            subst hav
            have hlE : ((U j).1.eraseIdx o).length = n - 1 := by rw [List.length_eraseIdx, if_pos (by omega), hN]
            have HNw := hid fun (W : World) (hb : Below w6.heap.size w6 W) => (HRk.out.below hb).news
            have HK := hid fun (W : World) (hb : Below w6.heap.size w6 W) => (⟨(HRk.out.below hb).cells.2.2.2, frozen_of_row _ _ 3 _ _ (HRk.out.below hb).var⟩ : W.cell? ⟨B, 3, none⟩ = some (.slice (some ⟨g, 0, none⟩) n cv) ∧ W.frozen? ⟨B, 3, none⟩ = false)
            have hlq : qs1.length = n := by rw [HRk.out.len, hN]
            have HL1 : Hid ((flatE (qs1.take o)).length = o * 2) := by unfold Hid; rw [flatE_len, List.length_take]; congr 1; omega
            have HL2 : Hid ((flatE (qs1.drop (o + 1))).length = (n - (o + 1)) * 2) := by unfold Hid; rw [flatE_len, List.length_drop, hlq]
            have HFin : Hid (∀ (v8 : Value) (W8 : World), W8.ownsRow w6.heap.size 48 2 v8 (0 + o + (n - (o + 1))) ([] ++ flatE (qs1.take o) ++ flatE (qs1.drop (o + 1))) → Below w6.heap.size w6 W8 → PutAtP P w B pg sz tn v ((U j).1.eraseIdx o) (W8.setCell ⟨B, 3, none⟩ v8) ∧ (Reads .i64 (W8.setCell ⟨B, 3, none⟩ v8) p3 K d3 (ts.take K) ∧ BlN (W8.setCell ⟨B, 3, none⟩ v8) p3)) := by
              intro v8 W8 hO8 hb8
              rw [List.nil_append, show 0 + o + (n - (o + 1)) = (U j).1.length - 1 by omega] at hO8
              obtain ⟨y1, y2, y3, y4⟩ := HRk.out.gone hb8 (by omega) hO8 (Nat.le_refl _)
              exact ⟨PutAtP.step HV.out HK1.out HF1.out y1 y2 y3 fun b hb => .inr (y4 b hb), HX3.out.kpi HY3.out y2⟩
            have HN1 : Hid (∀ W : World, Below w6.heap.size w6 W → ∀ b, some (⟨g, 0, none⟩ : Addr) = some b → ∀ j u, (flatE (qs1.take o))[j]? = some u → W.cell? (b.add j) = some u) := fun W hb b hbe j u hu => by
              rw [flatE_take, List.getElem?_take] at hu
              split at hu
              · exact HNw.out W hb b hbe j u hu
              · cases hu
            have hw1 : IntKind.i64.wrap ((o : Int) + 1) = (o : Int) + 1 := wrap64_in (by omega) (by omega)
            have hs1 := fun W : World => cutE_to g n cv o (by omega) W
            obtain ⟨A, hs2, hA⟩ := cutE_from g n cv o (by omega) (by omega)
            have HN2 : Hid (∀ W : World, Below w6.heap.size w6 W → ∀ b, some A = some b → ∀ j u, (flatE (qs1.drop (o + 1)))[j]? = some u → W.cell? (b.add j) = some u) := fun W hb b hbe j u hu => by
              cases hbe
              have hj : j < (flatE (qs1.drop (o + 1))).length := by
                rcases Nat.lt_or_ge j (flatE (qs1.drop (o + 1))).length with h | h
                · exact h
                · rw [List.getElem?_eq_none h] at hu; cases hu
              rw [HL2.out] at hj
              rw [hA (by omega)]
              rw [flatE_drop, List.getElem?_drop] at hu
              have := HNw.out W hb _ rfl _ u hu
              rw [Addr.add_lit, Nat.zero_add] at this
              rw [Addr.add_lit]
              exact this
            clear hA
            have HO1 := hid (flatE_one (qs1.take o))
            have HO2 := hid (flatE_one (qs1.drop (o + 1)))
            have l3 : w6.cell? ⟨B, 3, none⟩ = some (.slice (some ⟨g, 0, none⟩) n cv) := (HK.out _ (Below.refl _ _)).1
            have HV6 : Hid (Below w6.heap.size w6 w6.drew) := (Below.refl _ _).drew
            clear HEnd HSwap HRk HK1 HF1 HV c0 c1 c2 c3 hv hg cur ho hoe
            go_wp2_with fail
            go_cut [9] (fun x wx => x = .int .i64 (o : Int) ∧ Hid (PutAtP P w B pg sz tn v ((U j).1.eraseIdx o) wx) ∧ Hid (Reads .i64 wx p3 K d3 (ts.take K) ∧ BlN wx p3))
            case first =>
              go_region_law
                (first
                  | (refine step_append_row (by rfl) 121 (by rfl) (.const (.slice none 0 0)) (.tmp 120) 30 (by rfl) w6.heap.size 48 j0 (.agg #[.slice none 0 0, .int .i64 0]) 2 32 Tryz.undEn ji jz0 jz1 jz2 rfl (by decide) (by decide) _ 0 [] (by rfl) (World.ownsRow_nil _ _ _ _) (some ⟨g, 0, none⟩) o cv (flatE (qs1.take o)) (by rfl) (fun e => by cases e) HL1.out (HN1.out _ HV6.out) HO1.out (by omega) HV6.out.size ?_; intro v7 w7 hO7 hb7; have HW7 := hid (HV6.out.trans hb7); have HO7 := hid hO7; have m3 := (HK.out _ HW7.out).1; clear hO7 hb7)
                  | (refine step_append_row (by rfl) 129 (by rfl) (.tmp 121) (.tmp 128) 30 (by rfl) w6.heap.size 48 j0 (.agg #[.slice none 0 0, .int .i64 0]) 2 32 Tryz.undEn ji jz0 jz1 jz2 rfl (by decide) (by decide) v7 (0 + o) ([] ++ flatE (qs1.take o)) (by rfl) HO7.out (some A) (n - (o + 1)) (cv - (o + 1)) (flatE (qs1.drop (o + 1))) (by rfl) (fun e => by cases e) HL2.out (HN2.out _ HW7.out) HO2.out (by omega) HW7.out.size ?_; intro v8 w8 hO8 hb8; obtain ⟨a8, e8, rfl⟩ := own_sl hO8; have HW8 := hid (HW7.out.trans hb8); have s3 := (HK.out _ HW8.out).1; have s4 := (HK.out _ HW8.out).2; have HP8 := hid (HFin.out _ _ hO8 HW8.out); clear hO8 hb8)
                  | fail)
              all_goals
                rw [Nat.zero_add] at HP8
                clear HFin HNw HN1 HN2 HL1 HL2 HO1 HO2 HK l3 HV6 hs1 hs2 m3 s3 s4 HW7 HW8 HO7 HU2
              all_goals
                go_wp2_with fail
              all_goals
                go_meet
                exact ⟨rfl, hid HP8.out.1, hid HP8.out.2⟩
            case rest =>
            obtain ⟨rfl, HP9, HX9⟩ := hcut
            clear HFin HNw HN1 HN2 HL1 HL2 HO1 HO2 HK l3 HV6 hs1 hs2 HX3 HY3 HBa
            obtain ⟨v9, qs9, hR9, hv9, hk9, hf9⟩ := HP9.out
            obtain ⟨av9, cv9, rfl, rv9, mv9⟩ := hR9.isSl
            have HRk9 := hid hR9
            have HV9 := hid hv9
            have HK19 := hid hk9
            have HF19 := hid hf9
            have HX39 := hid HX9.out.1
            have HY39 := hid HX9.out.2
            have HBa9 := hid hR9.bare
            clear HP9 HX9 hR9 hv9 hk9 hf9
            obtain ⟨n9, hN9⟩ : ∃ n9, ((U j).1.eraseIdx o).length = n9 := ⟨_, rfl⟩
            rw [hN9] at hlE rv9 HRk9 HV9 HBa9
            have hn9 : n9 ≤ 999 := by omega
            clear hlE hlq hN hw1 hon hod hol hol2 ob
            go_wp2_with fail
            have hln : n9 + 1 ≤ 1000 := by omega
            have hxl : (ts.take K).length ≤ 1000 := by omega
            have HK := hid fun (W : World) (hb : Below wc.heap.size wc W) => (⟨(HRk9.out.below hb).cells.2.2.1, (HRk9.out.below hb).cells.2.2.2, frozen_of_row _ _ 3 _ _ (HRk9.out.below hb).var⟩ : W.cell? ⟨B, 2, none⟩ = some (.int .i64 tn) ∧ W.cell? ⟨B, 3, none⟩ = some (.slice av9 n9 cv9) ∧ W.frozen? ⟨B, 3, none⟩ = false)
            have HNw := hid fun (W : World) (hb : Below wc.heap.size wc W) => (HRk9.out.below hb).news
            have HLq : Hid ((flatE qs9).length = n9 * 2) := by unfold Hid; rw [flatE_len, HRk9.out.len, hN9]
            have HOn := hid (flatE_one qs9)
            have HFin : Hid (∀ (base : Nat) (v7 : Value) (W7 : World), wc.heap.size ≤ base → W7.ownsRow base 48 2 v7 (0 + n9 + 1) ([] ++ flatE qs9 ++ [.slice p3 K d3, .int .i64 tn]) → Below wc.heap.size wc W7 → PutAtP P w B pg sz tn v (U (j + 1)).1 (W7.setCell ⟨B, 3, none⟩ v7) ∧ (W7.setCell ⟨B, 3, none⟩ v7).cell? ⟨B, 1, none⟩ = some (.int .i64 sz) ∧ (W7.setCell ⟨B, 3, none⟩ v7).cell? ⟨B, 2, none⟩ = some (.int .i64 tn)) := by
              intro base v7 W7 hba hO7 hb7
              obtain ⟨y1, y2, y3, y4⟩ := HRk9.out.more hb7 (base := base) (x := ts.take K) (u := tn) (by rw [hN9]; simpa using hO7) hba (HX39.out.below hb7) (HY39.out.below hb7) hxl (by rw [hN9]; exact hln) HXo.out
              refine ⟨?_, y1.cells.2.1, y1.cells.2.2.1⟩
              rw [HU2.out]
              exact PutAtP.step HV9.out HK19.out HF19.out y1 y2 y3 fun b hb => .inr (y4 b hb)
            have HN2 : Hid ((U (j + 1)).2.1 = (U j).2.1 + 1) := by unfold Hid; rw [HU2.out]
            have HJ2 : Hid ((U (j + 1)).2.2 = false) := by unfold Hid; rw [HU2.out]
            have HV5 : Hid (Below wc.heap.size wc wc.drew) := (Below.refl _ _).drew
            have HA5 := hid fun (o : Obj) => ((Below.refl wc.heap.size wc).alloc (Nat.le_refl _) o).drew
            have HUa := hid fun (W : World) (hb : Below wc.heap.size wc W) (o : Obj) => hb.alloc hb.size o
            have HCn := hid fun (o : Obj) => (heap_alloc_new wc o : (wc.alloc o).drew.heap[wc.heap.size]? = some o)
            have l2 : wc.cell? ⟨B, 2, none⟩ = some (.int .i64 tn) := (HK.out _ HV5.out).1
            have l2a : ∀ o : Obj, (wc.alloc o).cell? ⟨B, 2, none⟩ = some (.int .i64 tn) := fun o => (HK.out _ (HA5.out o)).1
            have l3 : wc.cell? ⟨B, 3, none⟩ = some (.slice av9 n9 cv9) := (HK.out _ HV5.out).2.1
            have l3a : ∀ o : Obj, (wc.alloc o).cell? ⟨B, 3, none⟩ = some (.slice av9 n9 cv9) := fun o => (HK.out _ (HA5.out o)).2.1
            clear HRk9 HX39 HY39 HK19 HF19 HV9 HU2 hN9
            go_region_law
              (first
                | (refine step_append_row (by rfl) 137 (by rfl) (.const (.slice none 0 0)) (.tmp 136) 30 (by rfl) wc.heap.size 48 j0 (.agg #[.slice none 0 0, .int .i64 0]) 2 32 Tryz.undEn ji jz0 jz1 jz2 rfl (by decide) (by decide) _ 0 [] (by rfl) (World.ownsRow_nil _ _ _ _) av9 n9 cv9 (flatE qs9) (by rfl) HBa9.out HLq.out (HNw.out _ HV5.out) HOn.out (by omega) HV5.out.size ?_; intro v6 w6 hO6 hb6; have HW6 := hid (HV5.out.trans hb6); have HO6 := hid hO6; have m2 := (HK.out _ HW6.out).1; have HZ6 := hid (Nat.le_refl wc.heap.size); clear hO6 hb6)
                | (refine step_append_row (by rfl) 137 (by rfl) (.const (.slice none 0 0)) (.tmp 136) 30 (by rfl) (wc.heap.size + 1) 48 j0 (.agg #[.slice none 0 0, .int .i64 0]) 2 32 Tryz.undEn ji jz0 jz1 jz2 rfl (by decide) (by decide) _ 0 [] (by rfl) (World.ownsRow_nil _ _ _ _) av9 n9 cv9 (flatE qs9) (by rfl) HBa9.out HLq.out (HNw.out _ (HA5.out _)) HOn.out (by omega) (by simp) ?_; intro v6 w6 hO6 hb6; have HW6 := hid ((HA5.out _).trans (hb6.mono (Nat.le_succ _))); have HO6 := hid hO6; have m2 := (HK.out _ HW6.out).1; have HZ6 := hid (Nat.le_succ wc.heap.size); have HZs := hid (Nat.le_trans (by simp : wc.heap.size + 1 ≤ (wc.alloc _).drew.heap.size) hb6.size); have HC6 := hid ((hb6.block _ (Nat.lt_succ_self _)).trans (HCn.out _)); clear hO6 hb6)
                | (refine step_append_row (by rfl) 145 (by rfl) (.tmp 137) (.tmp 144) 30 (by rfl) _ 48 j0 (.agg #[.slice none 0 0, .int .i64 0]) 2 32 Tryz.undEn ji jz0 jz1 jz2 rfl (by decide) (by decide) v6 (0 + n9) ([] ++ flatE qs9) (by rfl) (HO6.out.alloc _) (some ⟨w6.heap.size, 0, none⟩) 1 1 [.slice p3 K d3, .int .i64 tn] (by rfl) (fun e => by cases e) rfl (fun b hb => by cases hb; exact World.news_of_block (heap_alloc_new w6 _)) (by simp [Value.oneCell']) (by omega) (HUa.out _ HW6.out _).size ?_; intro v7 w7 hO7 hb7; obtain ⟨g7, e7, rfl⟩ := own_some hO7 (by omega); have HW7 := hid ((HUa.out _ HW6.out _).trans hb7); have HO7 := hid hO7; have s3 := (HK.out _ HW7.out).2.1; have s4 := (HK.out _ HW7.out).2.2; have HE7 := hid (HFin.out _ _ _ HZ6.out HO7.out HW7.out); clear hO7 hb7)
                | (refine step_append_row (by rfl) 145 (by rfl) (.tmp 137) (.tmp 144) 30 (by rfl) _ 48 j0 (.agg #[.slice none 0 0, .int .i64 0]) 2 32 Tryz.undEn ji jz0 jz1 jz2 rfl (by decide) (by decide) v6 (0 + n9) ([] ++ flatE qs9) (by rfl) HO6.out (some ⟨wc.heap.size, 0, none⟩) 1 1 [.slice p3 K d3, .int .i64 tn] (by rfl) (fun e => by cases e) rfl (fun b hb => by cases hb; exact World.news_of_block HC6.out) (by simp [Value.oneCell']) (by omega) HZs.out ?_; intro v7 w7 hO7 hb7; obtain ⟨g7, e7, rfl⟩ := own_some hO7 (by omega); have HW7 := hid (HW6.out.trans (hb7.mono HZ6.out)); have HO7 := hid hO7; have s3 := (HK.out _ HW7.out).2.1; have s4 := (HK.out _ HW7.out).2.2; have HE7 := hid (HFin.out _ _ _ HZ6.out HO7.out HW7.out); clear hO7 hb7)
                | fail)
            all_goals
              have e1 := HE7.out.2.1
              have HS2 := hid HE7.out.1
              rw [Nat.zero_add] at e1 HS2
              clear HE7 HO7 HO6 HW6 HW7 HFin HK HNw HA5 HUa HCn l2 l2a l3 l3a m2 s3 s4
            all_goals
              go_wp2_with fail
              go_round
              case rel => exact ⟨j + 1, K + sz, HK2.out, HJs.out hle, by rw [HN2.out], by go_num, HJ2, HS2⟩
              case measure => simp [intOf]; omega
  · have hq : (nt : Int) < (K : Int) := by omega
    have HDj := hid (HNj.out (by omega))
    clear HNj HT HEl HUse HAdd HSwap HStop HStay hR hv1 hk1 hf1
    go_wp2
    go_ret
    rw [HDj.out]
    exact ⟨rfl, HS.out⟩
end Go.Proofs.YtdomjdfancpbbaaGreat
