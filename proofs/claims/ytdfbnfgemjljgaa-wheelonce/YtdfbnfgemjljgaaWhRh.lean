/-
  The document's wheel: Due.
-/
import Derived.Test.YtdfbnfgemjljgaaWhRg
namespace Go.Proofs.Ytdfbnfgemjljgaa
open Go.RowKit
set_option linter.unusedVariables false
set_option maxRecDepth 1000000

/-- An append whose run is laid as an equation. -/
theorem wpList_app {P : Program} {w : World} {ops : Array Oper} {rest : List Oper} {o : Oper} {a : Act} {Q : Exit → Act → World → Prop} (hgd : o.guard = none) (d : Tmp) (hd : o.dst = some d) (s x : Operand) (t : TypeId)
    (ho : o.op = .call { callee := .builtin .append, args := #[s, x], argTypes := #[t, t] }) (v1 v2 v' : Value) (w' : World) (hs : a.eval s = v1) (hx : a.eval x = v2) (hr : (Builtin.append_ #[t, t] o.type #[v1, v2]).run P w = .ok v' w') (h : wpList P ops Q rest (a.put (some d) v') w') : wpList P ops Q (o :: rest) a w :=
  wpList_plain hgd fun K hK => by
    unfold Oper.wp execOp
    simp only [ho, resolve, invoke, builtin, Sem.run_bind, Sem.run_pure, Result.andThen_ok, List.map_toArray, List.map_cons, List.map_nil, hs, hx, hr]
    show K (a.put o.dst _) w'
    rw [hd]
    exact hK _ _ h
theorem due_wrap {i : Nat} (h : i ≤ 5000) : IntKind.i64.wrap ((i : Int) + 1) = (i : Int) + 1 := by rw [IntKind.wrap_i64]; omega
set_option maxHeartbeats 8000000 in
theorem rdue_any {W : World} {B : Nat} {T last : Int} {a : Option Addr} {len cap : Nat} {L : List Tm} (h : RwAt W B T last a len cap L) (now : Int) :
    Calls Try.prog 14 #[.pointer (some ⟨B, 0, none⟩), .int .i64 now] W fun e w' => ∃ a' n cap', e = .returned (.slice a' n cap') ∧ Hid (TsAt 49 w' a' n cap' (L.takeWhile (dueB (timeZ T now))) ∧ RwO W B (timeZ T now) last (L.dropWhile (dueB (timeZ T now))) w') := by
  have hLa := rlater_any h now
  have HBW : Hid (B < W.heap.size) := lt_of_block h.obj
  generalize timeZ T now = T' at *
  clear h
  go_enter Try.func14, Try.ntmps14
  go_wp2_with fail
  with_reducible refine hLa.mono ?_
  rintro e w1 ⟨rfl, H1⟩
  have H := hid fun (W' : World) (hb : Below w1.heap.size w1 W') => H1.out.1.below hb
  have HF1 : Hid (Fb (at1 B) W w1 ∧ w1.heap.size = W.heap.size) := H1.out.2
  have hrm := H1.out.1.lst.room
  have hms := H1.out.1.lst.most
  have hfw := H1.out.1.few
  have HL := hid H1.out.1.lst.size
  clear hLa H1
  go_wp2_with fail
  go_loopw [5] (fun z W' => ∃ i : Nat, i ≤ len ∧ z = .int .i64 i ∧ Hid ((∀ x ∈ L.take i, dueB T' x = true) ∧ Below w1.heap.size w1 W')) (fun z _ => len - (intOf z).toNat)
  case atStart => exact ⟨0, Nat.zero_le _, rfl, by simp, Below.refl _ _⟩
  case round =>
  obtain ⟨i, hi, rfl, HR⟩ := hrel
  rename World => wr
  have HRd : Hid (Below w1.heap.size w1 wr.drew) := HR.out.2.drew
  obtain ⟨c0, c1, c2⟩ := (H.out wr.drew HRd.out).cells
  have fin : ∀ (j : Nat), j = i → (∀ x, L[i]? = some x → dueB T' x = false) → j ≤ len → L.takeWhile (dueB T') = L.take i ∧ L.dropWhile (dueB T') = L.drop i := fun j hj hn hl => tw_at HR.out.1 hn (by rw [HL.out]; omega)
  -- what is left behind the loop
  have HO : Hid (L.takeWhile (dueB T') = L.take i → L.dropWhile (dueB T') = L.drop i → ∀ ty : TypeId, ∃ v' w' , (Builtin.append_ #[25, 25] ty #[.slice none 0 0, .slice a i cap]).run Try.prog wr.drew = .ok v' w' ∧ (∃ a' cap', v' = .slice a' i cap' ∧ TsAt 49 w' a' i cap' (L.takeWhile (dueB T'))) ∧ Below w1.heap.size w1 w' ∧ RwAt w' B T' last a len cap L) := fun e1 e2 ty => by
    have h := H.out wr.drew HRd.out
    have hs := h.lst.size
    have hnil : wr.drew.ownsRow wr.drew.heap.size 49 4 (.slice none 0 0) ([] : List Tm).length (flatT []) := World.ownsRow_nil _ _ _ _
    obtain ⟨v', w', r1, o1, b1, _⟩ := appT hnil (Nat.le_refl _) (h.lst.take (m := i) hi) (by simp; omega) ty
    rw [List.nil_append] at o1
    have hl : (L.take i).length = i := by rw [List.length_take]; omega
    rw [hl] at o1
    obtain ⟨a', cap', hv, ht, _⟩ := TsAt.own o1
    have hb : Below w1.heap.size w1 w' := HRd.out.trans (b1.mono HRd.out.size)
    exact ⟨v', w', r1, ⟨a', cap', hv, by rw [e1]; exact ht⟩, hb, H.out w' hb⟩
  obtain ⟨bb, Hbb⟩ : ∃ bb : Bool, Hid (bb = (decide (i < len) && dueB T' (tk L i))) := ⟨_, rfl⟩
  go_upto_region 3 with fail
  go_cut [31] (fun v wx => v = .bool bb ∧ wx = wr.drew)
  case first =>
    clear fin HO HR HF1 HBW
    by_cases hin : i < len
    · have g1 : (i : Int) < (len : Int) := by omega
      obtain ⟨b0, off, rfl, hc⟩ := (H.out wr.drew HRd.out).lst.cell i hin
      obtain ⟨x, Hx⟩ : ∃ x, Hid (tk L i = x) := ⟨_, rfl⟩
      rw [Hx.out] at hc
      obtain ⟨e0, e1, e2, e3⟩ := hc
      by_cases hd : x.due ≤ T'
      · have HB : Hid (bb = true) := by unfold Hid; rw [Hbb.out, Hx.out]; simp [dueB, hin, hd]
        have hdd : decide (x.due ≤ T') = true := decide_eq_true hd
        have hg : decide ((i : Int) < (len : Int)) = true := decide_eq_true g1
        clear H HL HRd Hbb Hx
        go_region
        all_goals
          go_wp2_with fail
          go_meet
          exact ⟨by rw [HB.out], rfl⟩
      · have HB : Hid (bb = false) := by unfold Hid; rw [Hbb.out, Hx.out]; simp [dueB]; omega
        have hdd : decide (x.due ≤ T') = false := decide_eq_false hd
        have hg : decide ((i : Int) < (len : Int)) = true := decide_eq_true g1
        clear H HL HRd Hbb Hx
        go_region
        all_goals
          go_wp2_with fail
          go_meet
          exact ⟨by rw [HB.out], rfl⟩
    · have g1 : ¬ (i : Int) < (len : Int) := by omega
      have hg : decide ((i : Int) < (len : Int)) = false := decide_eq_false g1
      have HB : Hid (bb = false) := by unfold Hid; rw [Hbb.out]; simp [hin]
      clear H HL HRd Hbb
      go_region
      all_goals
        go_wp2_with fail
        go_meet
        exact ⟨by rw [HB.out], rfl⟩
  case rest =>
  obtain ⟨rfl, hw⟩ := hcut
  subst hw
  cases bb with
  | true =>
    have hb := Hbb.out.symm
    simp only [Bool.and_eq_true, decide_eq_true_eq] at hb
    have hil : i < L.length := by rw [HL.out]; exact hb.1
    have HN : Hid (∀ x ∈ L.take (i + 1), dueB T' x = true) := fun x hx => by
      rw [take_tk hil] at hx
      rcases List.mem_append.1 hx with hx | hx
      · exact HR.out.1 x hx
      · rw [List.mem_singleton.1 hx]; exact hb.2
    have hi1 : i + 1 ≤ len := hb.1
    clear fin HO HR H HL Hbb hb hil HF1 HBW c0 c1 c2
    go_wp2_with fail
    go_round
    case rel => exact ⟨i + 1, hi1, by go_num, HN.out, HRd.out⟩
    case measure => simp [intOf]; omega
  | false =>
    have hb := Hbb.out.symm
    obtain ⟨q1, q2⟩ := fin i rfl (fun x hx => by
      have hil : i < len := by rw [← HL.out]; exact (List.getElem?_eq_some_iff.1 hx).1
      rw [tk_get (by rw [HL.out]; exact hil)] at hx
      obtain rfl := Option.some.inj hx
      simpa [hil] using hb) hi
    obtain ⟨v', w', r1, ⟨a', cap', rfl, ht⟩, hbl, hrw⟩ := HO.out q1 q2 25
    have HT := hid ht
    have HBl := hid hbl
    have HRw := hid hrw
    have HR1 := hid r1
    have HQ2 := hid q2
    have f2 : w'.frozen? ⟨B, 2, none⟩ = false := frozen_of_row _ _ 2 _ _ hrw.obj
    obtain ⟨k0, k1, k2⟩ := hrw.cells
    have p3 : i ≤ cap := by omega
    have hfin : ∀ (A : Option Addr), TsAt 49 w' A (len - i) (cap - i) (L.drop i) → Hid (TsAt 49 (w'.setCell ⟨B, 2, none⟩ (.slice A (len - i) (cap - i))) a' i cap' (L.takeWhile (dueB T')) ∧ RwO W B T' last (L.dropWhile (dueB T')) (w'.setCell ⟨B, 2, none⟩ (.slice A (len - i) (cap - i)))) := fun A hA => by
      have hl := HRw.out.list (Below.refl _ _) hA (by omega)
      refine ⟨HT.out.fb (Fb.set (F := at1 B) (p := ⟨B, 2, none⟩) rfl _) fun k cur fr hk hc => ?_, ⟨A, len - i, cap - i, by rw [HQ2.out]; exact hl⟩, ?_⟩
      · have e : k = B := hk
        subst e
        rw [HRw.out.obj] at hc
        simp at hc
      · exact (HF1.out.1.trans ((Fb.of HBl.out).trans (Fb.set (F := at1 B) (p := ⟨B, 2, none⟩) rfl _) fun k hk => .inl hk) fun k hk => .inl hk)
    cases a with
    | none =>
      obtain ⟨z1, z2⟩ := HRw.out.lst.bare rfl
      subst z1
      subst z2
      obtain rfl : i = 0 := by omega
      have HFn := hfin none (by simpa using HRw.out.lst)
      simp only [Nat.sub_zero] at HFn
      clear fin HO HR H HL Hbb hb HF1 HBW hfin HRd r1 hbl hrw ht q1 q2
      go_wp2_with (at_builtin; refine wpList_app rfl 40 rfl (.const (.slice none 0 0)) (.tmp 39) 25 rfl _ _ _ _ rfl rfl HR1.out ?_)
      go_ret
      exact ⟨_, _, _, rfl, HFn⟩
    | some ad =>
      obtain ⟨hs, _⟩ := HRw.out.lst.ty ad rfl
      obtain ⟨b, off, sp⟩ := ad
      simp only at hs
      subst hs
      obtain ⟨A, hA⟩ : ∃ A, (if cap = i then some (⟨b, off, none⟩ : Addr) else some ⟨b, off + i * 4, none⟩) = A := ⟨_, rfl⟩
      have hdr := HRw.out.lst.drop (m := i) hi
      rw [hA] at hdr
      have HFn := hfin A hdr
      clear fin HO HR H HL Hbb hb HF1 HBW hfin HRd r1 hbl hrw ht q1 q2 hdr
      go_wp2_with (at_builtin; refine wpList_app rfl 40 rfl (.const (.slice none 0 0)) (.tmp 39) 25 rfl _ _ _ _ rfl rfl HR1.out ?_)
      go_ret
      exact ⟨_, _, _, rfl, HFn⟩
end Go.Proofs.Ytdfbnfgemjljgaa
