/-
  The document's list: appends to its row; Add.
-/
import Derived.Test.YtlhhkgjolilpiaaMbRh
import Derived.Deep.QuietTactic
namespace Go.Proofs.Ytlhhkgjolilpiaa
open Go.RowKit Go.Maps
set_option linter.unusedVariables false
set_option maxRecDepth 1000000
variable {B : Nat} {W W' w w' : World} {d i g n cap : Nat} {v v' : Value} {S S' : Ml} {r r' : Mr} {x t s z : Int}

theorem Try.infoRr : (Try.prog.info? 67).map (fun i => (i.zero, i.size, i.bytes)) = some (some (.agg #[.int .u64 0, .int .i64 0, .int .u64 0, .int .i64 0, .int .i64 0]), 5, 40) := by kernel_rfl
theorem Try.undRr : Try.prog.underlying 26 = some (.slice 67) := by kernel_rfl
/-- An append to a row of the call's own, whatever is appended, at a step of a region that draws its order. -/
theorem step_appendM {P : Program} {w : World} {ops : Array Oper} {o : Oper} {a : Act} {K : Act → World → Prop} {Q : Exit → Act → World → Prop} {E : Prop} (hgd : o.guard = none) (d : Tmp) (hd : o.dst = some d) (s x : Operand) (t : TypeId)
    (ho : o.op = .call { callee := .builtin .append, args := #[s, x], argTypes := #[t, t] })
    (base : Nat) (e : TypeId) (i : TypeInfo) (z : Value) (size bytes : Nat) (ht : P.underlying t = some (.slice e)) (hi : P.info? e = some i) (hz : i.zero = some z) (hsize : i.size = size) (hby : i.bytes = bytes) (hzs : z.cells.size = size) (hsz : 0 < size) (hbt : bytes ≤ 64)
    (v : Value) (n : Nat) (xs : List Value) (hs : a.eval s = v) (hown : w.ownsRow base e size v n xs)
    (ao : Option Addr) (m c : Nat) (news : List Value) (hx : a.eval x = .slice ao m c) (hnone : ao = none → m = 0 ∧ c = 0) (hl : news.length = m * size) (hnews : ∀ b, ao = some b → ∀ j u, news[j]? = some u → w.cell? (b.add j) = some u) (h1 : ∀ u ∈ news, u.oneCell' = true)
    (hnm : n + m ≤ 100000) (hbase : base ≤ w.heap.size)
    (h : ∀ v' w', w'.ownsRow base e size v' (n + m) (xs ++ news) → Below base w w' → K (a.put (some d) v') w') :
    if Region.wanted o (yielded ops a.tmps) = true then Oper.wp P o a w K Q else E := by
  have hw : Region.wanted o (yielded ops a.tmps) = true := by simp [Region.wanted, hgd]
  rw [if_pos hw]
  have hbytes : (n + m) * bytes ≤ 140737488355328 := by have : (n + m) * bytes ≤ (n + m) * 64 := Nat.mul_le_mul_left _ hbt; omega
  have key : ∃ v' w', (Builtin.append_ #[t, t] o.type #[v, .slice ao m c]).run P w = .ok v' w' ∧ w'.ownsRow base e size v' (n + m) (xs ++ news) ∧ Below base w w' := by
    cases ao with
    | some b =>
      obtain ⟨v', w', hrun, r1, r2, _⟩ := run_append_own (P := P) w base t o.type e i z size bytes ht hi hz hsize hby hzs hsz v n xs hown b m c news hl (hnews b rfl) h1 (by unfold maxLen; omega) hbytes hbase
      exact ⟨v', w', hrun, r1, (Below.refl _ _).grown r2 hbase fun g hg => (hown.lt g hg).1⟩
    | none =>
      obtain ⟨rfl, rfl⟩ := hnone rfl
      obtain rfl : news = [] := List.eq_nil_of_length_eq_zero (by simpa using hl)
      exact ⟨v, w, run_append_owned_none (P := P) (w := w) base t o.type e i size ht hi v n xs hown, by simpa using hown, Below.refl _ _⟩
  obtain ⟨v', w', hr, h2, h3⟩ := key
  unfold Oper.wp execOp
  simp only [ho, resolve, invoke, builtin, Sem.run_bind, Sem.run_pure, Result.andThen_ok, List.map_toArray, List.map_cons, List.map_nil, hs, hx, hr]
  show K (a.put o.dst _) w'
  rw [hd]
  exact h v' w' h2 h3
theorem own_someM {base e size n : Nat} {v : Value} {xs : List Value} {w : World} (h : w.ownsRow base e size v n xs) (hn : 0 < n) : ∃ g c, v = .slice (some ⟨g, 0, none⟩) n c := by
  rcases id h.2 with ⟨_, h0⟩ | ⟨g, cap, cur, hv, _⟩
  · omega
  · exact ⟨g, cap, hv⟩
/-- Its row turned: the new one is the call's own. -/
theorem RmAt.list (h : RmAt B W d v S) (hb : Below W.heap.size W W') {base : Nat} (ho : RwM 67 W' base v' S'.L) (hbase : W.heap.size ≤ base) (e1 : S'.now = S.now) (e2 : S'.last = S.last) : RmO B W d v S' v' (W'.setCell ⟨d, 2, none⟩ v') := by
  have hd := lt_of_block h.box
  have hge : ∀ k, v'.ownBlock = some k → W.heap.size ≤ k := fun k hk => Nat.le_trans hbase (ho.lts hk).1
  refine ⟨⟨?_, ?_, h.lo⟩, (Fb.of hb).trans (Fb.set (F := rF d v) (p := ⟨d, 2, none⟩) (.inl rfl) _) fun x hx => .inl hx, fun k hk => .inr (hge k hk)⟩
  · have := row_set (k := 2) (u := v') (block_bel h.box hb)
    rw [this]
    unfold RmC
    rw [e1, e2]
    rfl
  · refine (ho.same fun k hk => Below.heap_setCell _ _ _ _ ?_).to (by have := h.lo; omega)
    have := hge k hk
    intro e
    have e' : k = d := e
    omega
set_option maxHeartbeats 16000000 in
theorem radd_any (h : RmAt B w d v S) (ok : MlOk S) (t : Int) : Calls Try.prog 9 #[.pointer (some ⟨d, 0, none⟩), .int .i64 t] w fun e w' => e = .returned (.tuple #[.int .u64 (S.tm t).addN, .int .i64 (S.tm t).addE]) ∧ Hid (∃ v', RmO B w d v (S.tm t).addS v' w') := by
  obtain ⟨j0, ji, jz0, jz1, jz2⟩ := info_parts Try.infoRr
  have hL := rlater_any h t
  have ok1 := ok.tm t
  clear h ok
  generalize S.tm t = S1 at *
  have heq : S1.addN = (if S1.full = true then 0 else S1.last + 1) ∧ S1.addE = (if S1.full = true then 5 else 0) ∧ S1.addS = (if S1.full = true then S1 else S1.more) := ⟨rfl, rfl, rfl⟩
  obtain ⟨e1, e2, e3⟩ := heq
  have hlt := fun hf => ok1.lt hf
  have hla := ok1.last
  have hl8 := ok1.len
  clear ok1
  go_enter Try.func9, Try.ntmps9
  go_wp2_with fail
  refine hL.mono ?_
  rintro e w1 ⟨rfl, H1⟩
  clear hL
  obtain ⟨av, cv, rfl, rv, mv, nv⟩ := H1.out.at'.row.isSl
  have c2 := H1.out.at'.cs.row
  have c1 := H1.out.at'.cs.last
  obtain ⟨n, hN⟩ : ∃ n, S1.L.length = n := ⟨_, rfl⟩
  have HN := hid hN
  rw [hN] at c2 rv nv H1 hlt hl8
  cases hf : S1.full with
  | true =>
    rw [hf, if_pos rfl] at e1 e2 e3
    have H1e := hid e1
    have H2e := hid e2
    have H3e := hid e3
    rw [full_any, hN] at hf
    have hd : (8 ≤ n) ∨ (¬ 8 ≤ n ∧ 9223372036854775807 ≤ S1.last) := by
      simp only [Bool.or_eq_true, decide_eq_true_eq] at hf
      omega
    have HF : Hid (∃ v', RmO B w d (.slice av n cv) S1 v' w1) := ⟨_, H1.out⟩
    clear hf e1 e2 e3 hlt hN nv H1
    rcases hd with h8 | ⟨h8, hm⟩
    · have d1 : decide ((8 : Int) ≤ (n : Int)) = true := decide_eq_true (by omega)
      clear h8 c1 hla
      go_wp2
      go_ret2
      exact ⟨by rw [H1e.out, H2e.out]; rfl, by rw [H3e.out, HN.out]; exact HF⟩
    · have d1 : decide ((8 : Int) ≤ (n : Int)) = false := decide_eq_false (by omega)
      have d2 : decide ((9223372036854775807 : Int) ≤ S1.last) = true := decide_eq_true hm
      clear h8 hm hla
      generalize S1.last = la at c1 d2
      go_wp2
      go_ret2
      exact ⟨by rw [H1e.out, H2e.out]; rfl, by rw [H3e.out, HN.out]; exact HF⟩
  | false =>
    obtain ⟨l1, l2⟩ := hlt hf
    rw [hf, if_neg (by decide)] at e1 e2 e3
    have H1e := hid e1
    have H2e := hid e2
    have H3e := hid e3
    have d1 : decide ((8 : Int) ≤ (n : Int)) = false := decide_eq_false (by omega)
    have d2 : decide ((9223372036854775807 : Int) ≤ S1.last) = false := decide_eq_false (by omega)
    have v1 : IntKind.u64.wrap (S1.last + 1) = S1.last + 1 := by rw [IntKind.wrap_u64]; omega
    have f1 := H1.out.at'.fz 1
    obtain ⟨wc, hwc⟩ : ∃ wc, wc = w1.setCell ⟨d, 1, none⟩ (.int .u64 (S1.last + 1)) := ⟨_, rfl⟩
    have h3 : RmO B w1 d (.slice av n cv) { S1 with last := S1.last + 1 } (.slice av n cv) wc := by rw [hwc]; exact H1.out.at'.boxed rfl rfl
    have HR := hid h3.at'
    have HTx : Hid (∀ (w' : World) (q' : Ml) (v' : Value), RmO B wc d (.slice av n cv) q' v' w' → ∃ v', RmO B w d (.slice av n cv) q' v' w') := fun w' q' v' ho => ⟨v', H1.out.trans (h3.trans ho)⟩
    have HBa := hid nv
    clear hf e1 e2 e3 hlt h3 H1 hla hN nv
    have HK := hid fun (W : World) (hb : Below wc.heap.size wc W) => And.intro (HR.out.below hb).cs ((HR.out.below hb).fz 2)
    have HNw := hid fun (W : World) (hb : Below wc.heap.size wc W) => (HR.out.below hb).row.news
    have HLq : Hid ((flatM S1.L).length = n * 5) := by unfold Hid; rw [flatM_len, HN.out]
    have HOn := hid (flatM_one S1.L)
    have HFin : Hid (∀ (base : Nat) (v7 : Value) (W7 : World), wc.heap.size ≤ base → W7.ownsRow base 67 5 v7 (0 + n + 1) ([] ++ flatM S1.L ++ [.int .u64 (S1.last + 1), .int .i64 1, .int .u64 0, .int .i64 0, .int .i64 S1.now]) → Below wc.heap.size wc W7 → (∃ v', RmO B w d (.slice av n cv) S1.more v' (W7.setCell ⟨d, 2, none⟩ v7)) ∧ (W7.setCell ⟨d, 2, none⟩ v7).cell? ⟨d, 1, none⟩ = some (.int .u64 (S1.last + 1))) := fun base v7 W7 hba hO7 hb7 => by
      have e2 : [] ++ flatM S1.L ++ [.int .u64 (S1.last + 1), .int .i64 1, .int .u64 0, .int .i64 0, .int .i64 S1.now] = flatM (S1.L ++ [S1.new1]) := by rw [flatM_app]; rfl
      have e1 : (S1.L ++ [S1.new1]).length = 0 + n + 1 := by simp [HN.out]
      rw [e2] at hO7
      have hx : RwM 67 W7 base v7 S1.more.L := by show W7.ownsRow base _ 5 v7 (S1.L ++ [S1.new1]).length (flatM (S1.L ++ [S1.new1])); rw [e1]; exact hO7
      have hO := HR.out.list (S' := S1.more) hb7 hx hba rfl rfl
      exact ⟨HTx.out _ _ _ hO, hO.at'.cs.last⟩
    have HV5 : Hid (Below wc.heap.size wc wc.drew) := (Below.refl _ _).drew
    have HA5 := hid fun (o : Obj) => ((Below.refl wc.heap.size wc).alloc (Nat.le_refl _) o).drew
    have HUa := hid fun (W : World) (hb : Below wc.heap.size wc W) (o : Obj) => hb.alloc hb.size o
    have HCn := hid fun (o : Obj) => (heap_alloc_new wc o : (wc.alloc o).drew.heap[wc.heap.size]? = some o)
    have l3 : wc.cell? ⟨d, 2, none⟩ = some (.slice av n cv) := (HK.out _ HV5.out).1.row
    have l3a : ∀ o : Obj, (wc.alloc o).cell? ⟨d, 2, none⟩ = some (.slice av n cv) := fun o => (HK.out _ (HA5.out o)).1.row
    have l1' : wc.cell? ⟨d, 1, none⟩ = some (.int .u64 (S1.last + 1)) := (HK.out _ HV5.out).1.last
    have l0' : wc.cell? ⟨d, 0, none⟩ = some (.int .i64 S1.now) := (HK.out _ HV5.out).1.now
    have HK1 : Hid (∀ (W : World), Below wc.heap.size wc W → W.cell? ⟨d, 1, none⟩ = some (.int .u64 (S1.last + 1)) ∧ W.cell? ⟨d, 0, none⟩ = some (.int .i64 S1.now)) := fun W hb => ⟨(HK.out W hb).1.last, (HK.out W hb).1.now⟩
    clear HR HTx
    generalize hla2 : S1.last = la at hwc d2 v1 c1 HFin l1' HK1
    have HLA := hid hla2
    clear hla2
    generalize hsn : S1.now = sn at HFin l0' HK1
    clear hsn
    go_wp2_with fail
    rw [← hwc]
    clear hwc c1 c2 f1 d1 d2
    go_region_law
      (first
        | (refine step_appendM (by rfl) 34 (by rfl) (.const (.slice none 0 0)) (.tmp 33) 26 (by rfl) wc.heap.size 67 j0 (.agg #[.int .u64 0, .int .i64 0, .int .u64 0, .int .i64 0, .int .i64 0]) 5 40 Try.undRr ji jz0 jz1 jz2 rfl (by decide) (by decide) _ 0 [] (by rfl) (World.ownsRow_nil _ _ _ _) av n cv (flatM S1.L) (by rfl) HBa.out HLq.out (HNw.out _ HV5.out) HOn.out (by omega) HV5.out.size ?_; intro v6 w6 hO6 hb6; have HW6 := hid (HV5.out.trans hb6); have HO6 := hid hO6; obtain ⟨m1, m0⟩ := HK1.out _ HW6.out; have HZ6 := hid (Nat.le_refl wc.heap.size); clear hO6 hb6)
        | (refine step_appendM (by rfl) 34 (by rfl) (.const (.slice none 0 0)) (.tmp 33) 26 (by rfl) (wc.heap.size + 1) 67 j0 (.agg #[.int .u64 0, .int .i64 0, .int .u64 0, .int .i64 0, .int .i64 0]) 5 40 Try.undRr ji jz0 jz1 jz2 rfl (by decide) (by decide) _ 0 [] (by rfl) (World.ownsRow_nil _ _ _ _) av n cv (flatM S1.L) (by rfl) HBa.out HLq.out (HNw.out _ (HA5.out _)) HOn.out (by omega) (by simp) ?_; intro v6 w6 hO6 hb6; have HW6 := hid ((HA5.out _).trans (hb6.mono (Nat.le_succ _))); have HO6 := hid hO6; have HZ6 := hid (Nat.le_succ wc.heap.size); have HZs := hid (Nat.le_trans (by simp : wc.heap.size + 1 ≤ (wc.alloc _).drew.heap.size) hb6.size); have HC6 := hid ((hb6.block _ (Nat.lt_succ_self _)).trans (HCn.out _)); clear hO6 hb6)
        | (refine step_appendM (by rfl) 45 (by rfl) (.tmp 34) (.tmp 44) 26 (by rfl) _ 67 j0 (.agg #[.int .u64 0, .int .i64 0, .int .u64 0, .int .i64 0, .int .i64 0]) 5 40 Try.undRr ji jz0 jz1 jz2 rfl (by decide) (by decide) v6 (0 + n) ([] ++ flatM S1.L) (by rfl) (HO6.out.alloc _) (some ⟨w6.heap.size, 0, none⟩) 1 1 [.int .u64 (la + 1), .int .i64 1, .int .u64 0, .int .i64 0, .int .i64 sn] (by rfl) (fun e => by cases e) rfl (fun b hb => by cases hb; exact World.news_of_block (heap_alloc_new w6 _)) (by simp [Value.oneCell']) (by omega) (HUa.out _ HW6.out _).size ?_; intro v7 w7 hO7 hb7; obtain ⟨g7, e7, rfl⟩ := own_someM hO7 (by omega); have HW7 := hid ((HUa.out _ HW6.out _).trans hb7); have HO7 := hid hO7; have s3 := (HK.out _ HW7.out).1.row; have s4 := (HK.out _ HW7.out).2; have HE7 := hid (HFin.out _ _ _ HZ6.out HO7.out HW7.out); clear hO7 hb7)
        | (refine step_appendM (by rfl) 45 (by rfl) (.tmp 34) (.tmp 44) 26 (by rfl) _ 67 j0 (.agg #[.int .u64 0, .int .i64 0, .int .u64 0, .int .i64 0, .int .i64 0]) 5 40 Try.undRr ji jz0 jz1 jz2 rfl (by decide) (by decide) v6 (0 + n) ([] ++ flatM S1.L) (by rfl) HO6.out (some ⟨wc.heap.size, 0, none⟩) 1 1 [.int .u64 (la + 1), .int .i64 1, .int .u64 0, .int .i64 0, .int .i64 sn] (by rfl) (fun e => by cases e) rfl (fun b hb => by cases hb; exact World.news_of_block HC6.out) (by simp [Value.oneCell']) (by omega) HZs.out ?_; intro v7 w7 hO7 hb7; obtain ⟨g7, e7, rfl⟩ := own_someM hO7 (by omega); have HW7 := hid (HW6.out.trans (hb7.mono HZ6.out)); have HO7 := hid hO7; have s3 := (HK.out _ HW7.out).1.row; have s4 := (HK.out _ HW7.out).2; have HE7 := hid (HFin.out _ _ _ HZ6.out HO7.out HW7.out); clear hO7 hb7)
        | fail)
    all_goals
      have HS2 := hid HE7.out.1
      have y1 := HE7.out.2
      rw [Nat.zero_add] at HS2 y1
      clear HE7 HO7 HO6 HW6 HW7 HFin HK HK1 HNw HA5 HUa HCn l3 l3a l1' l0' s3 s4
    all_goals
      go_wp2_with fail
      go_ret2
      exact ⟨by rw [H1e.out, H2e.out, HLA.out]; rfl, by rw [H3e.out, HN.out]; exact HS2⟩
end Go.Proofs.Ytlhhkgjolilpiaa
