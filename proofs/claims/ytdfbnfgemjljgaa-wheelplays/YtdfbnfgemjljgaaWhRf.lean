/-
  The document's wheel: the time, Stop.
-/
import Derived.Test.YtdfbnfgemjljgaaWhTs
import Derived.Deep.RegionHeld3
import Derived.Deep.RegionLaw
namespace Go.Proofs.Ytdfbnfgemjljgaa
open Go.RowKit
set_option linter.unusedVariables false
set_option maxRecDepth 1000000

theorem stepApp {P : Program} {w : World} {ops : Array Oper} {o : Oper} {a : Act} {K : Act → World → Prop} {Q : Exit → Act → World → Prop} {E : Prop} (hgd : o.guard = none) (d : Tmp) (hd : o.dst = some d) (s x : Operand) (t : TypeId)
    (ho : o.op = .call { callee := .builtin .append, args := #[s, x], argTypes := #[t, t] }) (v1 v2 v' : Value) (w' : World) (hs : a.eval s = v1) (hx : a.eval x = v2) (hr : (Builtin.append_ #[t, t] o.type #[v1, v2]).run P w = .ok v' w') (h : K (a.put (some d) v') w') :
    if Region.wanted o (yielded ops a.tmps) = true then Oper.wp P o a w K Q else E := by
  have hw : Region.wanted o (yielded ops a.tmps) = true := by simp [Region.wanted, hgd]
  rw [if_pos hw]
  unfold Oper.wp execOp
  simp only [ho, resolve, invoke, builtin, Sem.run_bind, Sem.run_pure, Result.andThen_ok, List.map_toArray, List.map_cons, List.map_nil, hs, hx, hr]
  show K (a.put o.dst _) w'
  rw [hd]
  exact h
theorem rlater_any {W : World} {B : Nat} {T last : Int} {a : Option Addr} {len cap : Nat} {L : List Tm} (h : RwAt W B T last a len cap L) (now : Int) :
    Calls Try.prog 26 #[.pointer (some ⟨B, 0, none⟩), .int .i64 now] W fun e w' => e = .returned (.tuple #[]) ∧ Hid (RwAt w' B (timeZ T now) last a len cap L ∧ Fb (at1 B) W w' ∧ w'.heap.size = W.heap.size) := by
  obtain ⟨c0, c1, c2⟩ := h.cells
  have f0 : W.frozen? ⟨B, 0, none⟩ = false := frozen_of_row _ _ 0 _ _ h.obj
  by_cases h1 : T < now
  · by_cases h2 : now ≤ 1099511627776
    · have HE : Hid (RwAt (W.setCell ⟨B, 0, none⟩ (.int .i64 now)) B (timeZ T now) last a len cap L ∧ Fb (at1 B) W (W.setCell ⟨B, 0, none⟩ (.int .i64 now)) ∧ (W.setCell ⟨B, 0, none⟩ (.int .i64 now)).heap.size = W.heap.size) := by
        have e : timeZ T now = now := if_pos ⟨h1, h2⟩
        rw [e]
        exact ⟨h.time now, Fb.set (F := at1 B) (p := ⟨B, 0, none⟩) rfl _, by simp [World.setCell]⟩
      clear h
      go_enter Try.func26, Try.ntmps26
      go_wp2
      go_end0
      exact ⟨rfl, ⟨HE.out.1, HE.out.2.1, by first | rfl | exact HE.out.2.2⟩⟩
    · have HE : Hid (RwAt W B (timeZ T now) last a len cap L ∧ Fb (at1 B) W W ∧ W.heap.size = W.heap.size) := by
        have e : timeZ T now = T := if_neg fun h => h2 h.2
        rw [e]
        exact ⟨h, Fb.refl _ _, rfl⟩
      clear h
      go_enter Try.func26, Try.ntmps26
      go_wp2
      go_end0
      exact ⟨rfl, ⟨HE.out.1, HE.out.2.1, by first | rfl | exact HE.out.2.2⟩⟩
  · have HE : Hid (RwAt W B (timeZ T now) last a len cap L ∧ Fb (at1 B) W W ∧ W.heap.size = W.heap.size) := by
      have e : timeZ T now = T := if_neg fun h => h1 h.1
      rw [e]
      exact ⟨h, Fb.refl _ _, rfl⟩
    clear h
    go_enter Try.func26, Try.ntmps26
    go_wp2
    go_end0
    exact ⟨rfl, ⟨HE.out.1, HE.out.2.1, by first | rfl | exact HE.out.2.2⟩⟩
/-- What Stop answers. -/
def stpC (n : Int) (L : List Tm) : Int := if n ∈ L.map Tm.num then 0 else 6
/-- The two appends of Stop, as equations: without the one at i. -/
theorem rstop_eqs {W : World} {B : Nat} {T last : Int} {b off len cap : Nat} {L : List Tm} (h : RwAt W B T last (some ⟨b, off, none⟩) len cap L) {i : Nat} (hi : i < len) {A : Option Addr} (hA : (if cap = i + 1 then some (⟨b, off, none⟩ : Addr) else some ⟨b, off + (i + 1) * 4, none⟩) = A) (ty : TypeId) :
    ∃ (v1 : Value) (w1 : World) (v2 : Value) (w2 : World),
      (Builtin.append_ #[25, 25] ty #[.slice none 0 0, .slice (some ⟨b, off, none⟩) i cap]).run Try.prog W.drew = .ok v1 w1 ∧
      (Builtin.append_ #[25, 25] ty #[v1, .slice A (len - (i + 1)) (cap - (i + 1))]).run Try.prog w1 = .ok v2 w2 ∧
      (∃ a' cap', v2 = .slice a' (len - 1) cap') ∧
      w1.cell? ⟨B, 2, none⟩ = some (.slice (some ⟨b, off, none⟩) len cap) ∧ w2.cell? ⟨B, 2, none⟩ = some (.slice (some ⟨b, off, none⟩) len cap) ∧ w2.frozen? ⟨B, 2, none⟩ = false ∧
      RwO W B T last (L.take i ++ L.drop (i + 1)) (w2.setCell ⟨B, 2, none⟩ v2) := by
  have hs := h.lst.size
  have hf := h.few
  have hd : Below W.heap.size W W.drew := (Below.refl _ _).drew
  have h1 := h.below hd
  have hnil : W.drew.ownsRow W.heap.size 49 4 (.slice none 0 0) ([] : List Tm).length (flatT []) := World.ownsRow_nil _ _ _ _
  obtain ⟨v1, w1, e1, o1, b1, _⟩ := appT hnil (by exact Nat.le_refl _) (h1.lst.take (m := i) (by omega)) (by simp; omega) ty
  rw [List.nil_append] at o1
  have hb1 : Below W.heap.size W w1 := hd.trans b1
  have h2 := h.below hb1
  have h3 := h2.lst.drop (m := i + 1) (by omega)
  rw [hA] at h3
  obtain ⟨v2, w2, e2, o2, b2, _⟩ := appT o1 hb1.size h3 (by simp; omega) ty
  have hb2 : Below W.heap.size W w2 := hb1.trans b2
  have hl : (L.take i ++ L.drop (i + 1)).length = len - 1 := by simp; omega
  rw [hl] at o2
  obtain ⟨a', cap', hv, ht, _⟩ := TsAt.own o2
  refine ⟨v1, w1, v2, w2, e1, e2, ⟨a', cap', hv⟩, h2.cells.2.2, (h.below hb2).cells.2.2, frozen_of_row _ _ 2 _ _ (h.below hb2).obj, ?_⟩
  subst hv
  exact ⟨⟨a', len - 1, cap', h.list hb2 ht (by omega)⟩, (Fb.of hb2).trans (Fb.set (F := at1 B) (p := ⟨B, 2, none⟩) rfl _) fun k hk => .inl hk⟩
set_option maxHeartbeats 8000000 in
theorem rstop_any {W : World} {B : Nat} {T last : Int} {a : Option Addr} {len cap : Nat} {L : List Tm} (h : RwAt W B T last a len cap L) (n : Int) :
    Calls Try.prog 9 #[.pointer (some ⟨B, 0, none⟩), .int .i64 n] W fun e w' => e = .returned (.int .i64 (stpC n L)) ∧ Hid (RwO W B T last (stpT n L) w') := by
  obtain ⟨c0, c1, c2⟩ := h.cells
  have H := hid h
  have hrm := h.lst.room
  have hms := h.lst.most
  have hsz := h.lst.size
  have HL := hid hsz
  obtain ⟨C, HC⟩ : ∃ C, Hid (stpC n L = C) := ⟨_, rfl⟩
  obtain ⟨L', HL'⟩ : ∃ L', Hid (stpT n L = L') := ⟨_, rfl⟩
  rw [HC.out, HL'.out]
  clear h hsz
  go_enter Try.func9, Try.ntmps9
  go_wp2_with fail
  go_loopw [5] (fun z W' => ∃ i : Nat, i ≤ len ∧ z = .int .i64 i ∧ W' = W ∧ Hid (∀ x ∈ L.take i, x.num ≠ n)) (fun z _ => len - (intOf z).toNat)
  case atStart => exact ⟨0, Nat.zero_le _, rfl, rfl, by unfold Hid; simp⟩
  case round =>
  obtain ⟨i, hi, rfl, hW, HN⟩ := hrel
  have hW' := hW.symm
  subst hW'
  by_cases hin : i < len
  · have g1 : (i : Int) < (len : Int) := by omega
    obtain ⟨b0, off, rfl, hc⟩ := H.out.lst.cell i hin
    have hil : i < L.length := by rw [HL.out]; exact hin
    obtain ⟨x, Hx⟩ : ∃ x, Hid (tk L i = x) := ⟨_, rfl⟩
    rw [Hx.out] at hc
    obtain ⟨e0, e1, e2, e3⟩ := hc
    by_cases hxn : x.num = n
    · obtain ⟨A, hA⟩ : ∃ A, (if cap = i + 1 then some (⟨b0, off, none⟩ : Addr) else some ⟨b0, off + (i + 1) * 4, none⟩) = A := ⟨_, rfl⟩
      obtain ⟨v1, w1, v2, w2, r1, r2, ⟨a', cap', hv2⟩, k1, k2, f2, HO⟩ := rstop_eqs H.out hin hA 25
      subst hv2
      have hf := H.out.few
      have hwi : IntKind.i64.wrap ((i : Int) + 1) = (i : Int) + 1 := by rw [IntKind.wrap_i64]; omega
      have p0 : (0 : Int) ≤ (i : Int) + 1 := by omega
      have p1 : (i : Int) + 1 ≤ (len : Int) := by omega
      have p2 : ((i : Int) + 1).toNat = i + 1 := by omega
      have p3 : i ≤ cap := by omega
      have p4 : i + 1 ≤ len := by omega
      have hgx : L[i]? = some x := by rw [tk_get hil, Hx.out]
      have HE : Hid (stpC n L = 0 ∧ stpT n L = L.take i ++ L.drop (i + 1)) := ⟨if_pos (List.mem_map.2 ⟨x, List.mem_of_getElem? hgx, hxn⟩), stp_at HN.out hgx hxn⟩
      obtain rfl : 0 = C := by rw [← HC.out]; exact HE.out.1.symm
      have HF : Hid (RwO W B T last L' (w2.setCell ⟨B, 2, none⟩ (.slice a' (len - 1) cap'))) := by unfold Hid; rw [← HL'.out, HE.out.2]; exact HO
      have HR1 := hid r1
      have HR2 := hid r2
      have hxb : (x.num == n) = true := by simp [hxn]
      clear HO r1 r2 HN H HL hil Hx HC HL' HE hgx
      have k0 : W.drew.cell? ⟨B, 2, none⟩ = some (.slice (some ⟨b0, off, none⟩) len cap) := c2
      go_wp2_with fail
      go_region_law (first
        | (refine stepApp (by rfl) 32 (by rfl) (.const (.slice none 0 0)) (.tmp 31) 25 (by rfl) _ _ _ _ (by first | rfl | (simp [Act.eval]; done) | (simp [Act.eval, Act.put]; done)) (by first | (simp [Act.eval]; done) | (simp [Act.eval, Act.put]; done)) HR1.out ?_)
        | (refine stepApp (by rfl) 40 (by rfl) (.tmp 32) (.tmp 39) 25 (by rfl) _ _ _ _ (by first | (simp [Act.eval]; done) | (simp [Act.eval, Act.put]; done)) (by first | (simp [Act.eval]; done) | (simp [Act.eval, Act.put]; done)) HR2.out ?_))
      all_goals
        clear hA hwi p0 p1 p2 p3 p4 k0 k1 k2 f2 HR1 HR2
        go_wp2_with fail
        go_ret
        exact ⟨rfl, HF⟩
    · have hxb : (x.num == n) = false := by simp [hxn]
      have HN2 : Hid (∀ y ∈ L.take (i + 1), y.num ≠ n) := fun y hy => by
        rw [take_tk hil, Hx.out] at hy
        rcases List.mem_append.1 hy with hy | hy
        · exact HN.out y hy
        · rw [List.mem_singleton.1 hy]; exact hxn
      clear HN H HL hil Hx HC HL'
      go_wp2_with fail
      go_round
      case rel => exact ⟨i + 1, by omega, by go_num, by first | rfl | trivial, HN2.out⟩
      case measure => simp [intOf]; omega
  · have g1 : ¬ (i : Int) < (len : Int) := by omega
    obtain rfl : i = len := by omega
    have htk : L.take i = L := List.take_of_length_le (by rw [HL.out]; exact Nat.le_refl _)
    rw [htk] at HN
    have hno : n ∉ L.map Tm.num := fun hm => by
      obtain ⟨y, hy, e⟩ := List.mem_map.1 hm
      exact HN.out y hy e
    obtain rfl : 6 = C := by rw [← HC.out]; exact (if_neg hno).symm
    have HF : Hid (RwO W B T last L' W) := by
      unfold Hid
      rw [← HL'.out, stp_none HN.out]
      exact ⟨⟨a, i, cap, H.out⟩, Fb.refl _ _⟩
    clear HN H HL HC HL' htk hno
    go_wp2_with fail
    go_ret
    exact ⟨rfl, HF⟩
end Go.Proofs.Ytdfbnfgemjljgaa
