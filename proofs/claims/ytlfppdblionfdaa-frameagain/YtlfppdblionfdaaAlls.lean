/-
  Contracts: frame.All (by frame.walk, to which the method text.frameAt is handed as a value) and the document's All hand back what allF tells: the loads, each in memory of the call's own, how many bytes their frames had, and the error.
-/
import Derived.Test.YtlfppdblionfdaaOnes
namespace Go.Proofs.Ytlfppdblionfdaa
open Go.RowKit
open M
set_option linter.unusedVariables false

theorem Try.info22 : (Try.prog.info? 22).map (fun i => (i.zero, i.size, i.bytes)) = some (some (.slice none 0 0), 1, 24) := by kernel_rfl

/-- A row of the call's own, whose cells are slices that read as these lists. -/
def RowsOf (w : World) (base : Nat) (v : Value) (n : Nat) (ls : List (List Int)) : Prop :=
  ∃ vals : List Value, w.ownsRow base 22 1 v n vals ∧ ls.length = n ∧ (∀ zs ∈ ls, IsBytes zs) ∧
    ∀ j, j < n → ∃ a l c, vals[j]? = some (.slice a l c) ∧ Reads .u8 w a l c (ls[j]?.getD []) ∧ Bl5 w a

theorem RowsOf.nil (w : World) (base : Nat) : RowsOf w base (.slice none 0 0) 0 [] :=
  ⟨[], World.ownsRow_nil _ _ _ _, rfl, fun zs h => by simp at h, fun j hj => by omega⟩
theorem RowsOf.below {w w' : World} {base : Nat} {v : Value} {n : Nat} {ls : List (List Int)} (h : RowsOf w base v n ls) (hb : Below w.heap.size w w') : RowsOf w' base v n ls := by
  obtain ⟨vals, ho, hl, hz, hv⟩ := h
  refine ⟨vals, own_stays ho hb, hl, hz, fun j hj => ?_⟩
  obtain ⟨a, l, c, h1, h2, h3⟩ := hv j hj
  exact ⟨a, l, c, h1, h2.below hb, h3.below hb⟩
theorem RowsOf.parts {w : World} {base : Nat} {v : Value} {n : Nat} {ls : List (List Int)} (h : RowsOf w base v n ls) : ∃ a c, v = .slice a n c ∧ Parts w a n c ls := by
  obtain ⟨vals, ho, hl, hz, hv⟩ := h
  rcases id ho.2 with ⟨rfl, rfl⟩ | ⟨g, cap, cur, rfl, hb, hg, hnc, hm, hs, ht⟩
  · exact ⟨none, 0, rfl, hl, Nat.le_refl _, by omega, hz, fun i hi => by omega⟩
  · refine ⟨some ⟨g, 0, none⟩, cap, rfl, hl, hnc, by unfold maxLen at hm; omega, hz, fun i hi => ?_⟩
    obtain ⟨a, l, c, h1, h2, _⟩ := hv i hi
    refine ⟨g, 0, a, l, c, rfl, ?_, h2⟩
    have := ho.cells (g := g) rfl i _ h1
    rwa [Addr.add_lit] at this

/-- A slice of bytes stays while a row of slices grows. -/
theorem Reads.kept {w w' : World} {base : Nat} {v : Value} {n : Nat} {vals : List Value} {a : Option Addr} {l c : Nat} {zs : List Int} (ho : w.ownsRow base 22 1 v n vals) (hg : w.grownBy w' v.ownBlock)
    (hr : Reads .u8 w a l c zs) (h5 : Bl5 w a) : Reads .u8 w' a l c zs ∧ Bl5 w' a := by
  have key : ∀ p, a = some p → w'.heap[p.block]? = w.heap[p.block]? := by
    intro p hp
    obtain ⟨cur, fz, hc⟩ := h5 p hp
    refine hg.block p.block (Array.getElem?_eq_some_iff.1 hc).1 ?_
    intro e
    rcases ho.2 with ⟨rfl, _⟩ | ⟨g, cap, cur', rfl, _, hgb, _⟩
    · simp [Value.ownBlock] at e
    · simp [Value.ownBlock] at e
      rw [e, hgb] at hc
      simp at hc
  refine ⟨⟨hr.size, hr.room, hr.most, hr.bare, fun i hi => ?_⟩, fun p hp => ?_⟩
  · obtain ⟨b, off, ha, hc⟩ := hr.cell i hi
    exact ⟨b, off, ha, (World.cell?_of_block (a := ⟨b, off + i, none⟩) (key ⟨b, off, none⟩ ha)).trans hc⟩
  · obtain ⟨cur, fz, hc⟩ := h5 p hp
    exact ⟨cur, fz, (key p hp).trans hc⟩

/-- An append of one slice to a row of slices of the call's own. -/
theorem append_rows {P : Program} (w : World) {ops : Array Oper} {rest : List Oper} {o : Oper} {a : Act} {Q : Exit → Act → World → Prop} (hgd : o.guard = none) (s x : Operand) (t : TypeId)
    (ho : o.op = .call { callee := .builtin .append, args := #[s, x], argTypes := #[t, t] })
    (base : Nat) (i : TypeInfo) (ht : P.underlying t = some (.slice 22)) (hi : P.info? 22 = some i) (hz : i.zero = some (.slice none 0 0)) (hsize : i.size = 1) (hby : i.bytes = 24)
    (v : Value) (n : Nat) (ls : List (List Int)) (hs : a.eval s = v) (hown : RowsOf w base v n ls) (hn : n ≤ 100000)
    (B : Nat) (ax : Option Addr) (l c : Nat) (zs : List Int) (hx : a.eval x = .slice (some ⟨B, 0, none⟩) 1 1) (hc : w.cell? ⟨B, 0, none⟩ = some (.slice ax l c)) (hr : Reads .u8 w ax l c zs) (h5 : Bl5 w ax) (hzb : IsBytes zs)
    (hbase : base ≤ w.heap.size)
    (h : ∀ v' w', RowsOf w' base v' (n + 1) (ls ++ [zs]) → Below base w w' → wpList P ops Q rest (a.put o.dst v') w') : wpList P ops Q (o :: rest) a w := by
  obtain ⟨vals, hv, hl, hlz, hcell⟩ := hown
  refine wpList_append_own w hgd s x t ho base 22 i (.slice none 0 0) 1 24 ht hi hz hsize hby rfl (by decide) v n vals hs hv ⟨B, 0, none⟩ 1 1 [.slice ax l c] hx rfl ?_ ?_ (by unfold maxLen; omega) (by omega) hbase ?_
  · intro j u hu
    rcases j with _ | j
    · simp at hu
      rw [Addr.add_lit, Nat.zero_add, hc, hu]
    · simp at hu
  · intro u hu
    simp at hu
    subst hu
    rfl
  · intro v' w' h1 h2 _
    have hlen : vals.length = n := by have := hv.1; simpa using this
    refine h v' w' ⟨vals ++ [.slice ax l c], h1, by simp [hl], ?_, fun j hj => ?_⟩ ((Below.refl _ _).grown h2 hbase fun g hg => (hv.lt g hg).1)
    · intro y hy
      rcases List.mem_append.1 hy with hy | hy
      · exact hlz y hy
      · simp at hy; subst hy; exact hzb
    · rcases Nat.lt_or_ge j n with hj' | hj'
      · obtain ⟨a', l', c', e1, e2, e3⟩ := hcell j hj'
        obtain ⟨k1, k2⟩ := Reads.kept hv h2 e2 e3
        refine ⟨a', l', c', by rw [List.getElem?_append_left (by omega)]; exact e1, ?_, k2⟩
        rw [List.getElem?_append_left (by omega)]
        exact k1
      · obtain rfl : j = n := by omega
        obtain ⟨k1, k2⟩ := Reads.kept hv h2 hr h5
        refine ⟨ax, l, c, by rw [List.getElem?_append_right (by omega)]; simp [hlen], ?_, k2⟩
        rw [List.getElem?_append_right (by omega)]
        simpa [hl] using k1

theorem frameat_any (a : Option Addr) (len cap : Nat) (zs : List Int) (p : Nat) (w : World) (hr : Reads .u8 w a len cap zs) (hz : IsBytes zs) (hlen : len ≤ 100000) (hp : p < len) :
    Calls Try.prog 32 #[.slice a len cap, .int .i64 p] w fun e w' => Told (zs.drop p) w e w' := by
  have hrm := hr.room
  have hmo := hr.most
  obtain ⟨b, off, rfl, _⟩ := hr.cell 0 (by omega)
  have hc : ¬ cap = p := by omega
  have hP := parse_any _ _ _ _ w (hr.tail hp) (hz.drop p) (by omega)
  clear hr hz
  generalize zs.drop p = ys at *
  go_enter Try.func32, Try.ntmps32
  go_wp2_with fail
  refine hP.mono ?_
  rintro e w' ⟨a1, l1, c1, rfl, hr1, h51, hb1⟩
  have HT := hid (show Told ys w _ w' from ⟨a1, l1, c1, rfl, hr1, h51, hb1⟩)
  clear hr1 h51 hP
  go_wp2
  go_ret3
  exact HT.out

/-- What All hands back. -/
def ToldAll (zs : List Int) (w : World) (e : Ending) (w' : World) : Prop :=
  ∃ a n c, e = .returned (.tuple #[.slice a n c, .int .i64 (allF zs.length zs).2.1, .int .i64 (allF zs.length zs).2.2]) ∧ Parts w' a n c (allF zs.length zs).1 ∧ Below w.heap.size w w'
theorem ToldAll.of {zs : List Int} {w w' : World} {base : Nat} {v : Value} {n : Nat} {ls : List (List Int)} {p f : Int} (h : allF zs.length zs = (ls, p, f)) (hr : RowsOf w' base v n ls) (hb : Below w.heap.size w w') :
    ToldAll zs w (.returned (.tuple #[v, .int .i64 p, .int .i64 f])) w' := by
  obtain ⟨a, c, rfl, hp⟩ := hr.parts
  exact ⟨a, n, c, by rw [h], by rw [h]; exact hp, hb⟩

set_option maxHeartbeats 1000000 in
theorem walk_any (a : Option Addr) (len cap : Nat) (zs : List Int) (w : World) (hr : Reads .u8 w a len cap zs) (hz : IsBytes zs) (hlen : len ≤ 100000) :
    Calls Try.prog 31 #[.int .i64 len, .func (.func 32) #[.slice a len cap] #[]] w fun e w' => ToldAll zs w e w' := by
  obtain ⟨i0, hi, hy0, hy1, hy2⟩ := info_parts Try.info22
  have HL : Hid (zs.length = len) := hr.size
  have HR := hid hr
  have HZ := hid hz
  clear hr hz
  go_enter Try.func31, Try.ntmps31
  go_wp2_with fail
  go_loopw [7, 8] (fun u i wr => ∃ (p n : Nat) (ls : List (List Int)), p ≤ len ∧ i = .int .i64 p ∧ n ≤ p ∧ Hid (RowsOf wr w.heap.size u n ls) ∧ Hid (AllAt zs ls p) ∧ Below w.heap.size w wr) (fun _ i _ => len - (intOf i).toNat)
  case atStart => exact ⟨0, 0, [], by omega, rfl, by omega, RowsOf.nil _ _, AllAt.start _, Below.refl _ _⟩
  case round =>
    obtain ⟨p, n, ls, hp, rfl, hn, HW, HA, hb⟩ := hrel
    have hsz := hb.size
    by_cases hlt : p < len
    · have hF := frameat_any a len cap zs p wr (HR.out.below hb) HZ.out hlen hlt
      unfold Told at hF
      obtain ⟨x, m, f, hpar⟩ : ∃ x m f, parseF (zs.drop p) = (x, m, f) := ⟨_, _, _, rfl⟩
      rw [hpar] at hF
      by_cases hf : f = 0
      · subst hf
        obtain ⟨k, hk, _, hkl, hk8, _, _, hxb⟩ := parse_lay (HZ.out.drop p) (by rw [hpar])
        rw [hpar] at hk hxb
        simp only at hk hxb hF
        subst hk
        have hkl2 : p + k ≤ len := by simp [HL.out] at hkl; omega
        have HA2 := hid (HA.out.step (by have := HL.out; omega) hpar (by omega))
        have HX := hid hxb
        clear hxb hkl hpar
        go_wp2_with fail
        refine hF.mono ?_
        rintro e w2 ⟨a2, l2, c2, rfl, hr2, h52, hb2⟩
        have hs2 := hb2.size
        have hbA : Below w2.heap.size w2 (w2.alloc (.cells #[.slice a2 l2 c2] 22)) := (Below.refl _ _).alloc (Nat.le_refl _) _
        have HW2 := hid ((HW.out.below hb2).below hbA)
        have HR2 := hid (hr2.below hbA)
        have H52 := hid (h52.below hbA)
        have hb02 : Below w.heap.size w w2 := hb.trans (hb2.mono hsz)
        clear hF hr2 h52
        go_wp2_with (at_builtin; refine append_rows _ rfl (.tmp 27) (.tmp 29) 36 rfl w.heap.size i0 Try.underlying36 hi hy0 hy1 hy2 _ n ls rfl HW2.out (by omega) w2.heap.size a2 l2 c2 x rfl (by simp) HR2.out H52.out HX.out (by simp; omega) ?_; intro v3 w3 how3 hb3)
        have HW3 := hid how3
        clear how3
        go_wp2_with fail
        go_roundw
        case rel => exact ⟨p + k, n + 1, ls ++ [x], by omega, by go_num, by omega, HW3, HA2, hb02.trans (((Below.refl _ _).alloc (by omega) _).trans hb3)⟩
        case measure => simp [intOf]; omega
      · have HE := hid (HA.out.bad (by have := HL.out; omega) hpar hf)
        simp only at hF
        clear hpar
        go_wp2_with fail
        refine hF.mono ?_
        rintro e w2 ⟨a2, l2, c2, rfl, hr2, h52, hb2⟩
        have HW2 := hid (HW.out.below hb2)
        have hb02 : Below w.heap.size w w2 := hb.trans (hb2.mono hsz)
        clear hF hr2 h52
        go_wp2
        go_ret3
        exact ToldAll.of HE.out HW2.out hb02
    · have HE := hid (HA.out.stop (by have := HL.out; omega))
      go_wp2
      go_ret3
      exact ToldAll.of HE.out HW.out hb

theorem all_any (a : Option Addr) (len cap : Nat) (zs : List Int) (w : World) (hr : Reads .u8 w a len cap zs) (hz : IsBytes zs) (hlen : len ≤ 100000) :
    Calls Try.prog 18 #[.slice a len cap] w fun e w' => ToldAll zs w e w' := by
  have hW := walk_any a len cap zs w hr hz hlen
  clear hr hz
  go_enter Try.func18, Try.ntmps18
  go_wp2_with fail
  refine hW.mono ?_
  rintro e w' ⟨a1, n1, c1, rfl, hp1, hb1⟩
  have HT := hid (show ToldAll zs w _ w' from ⟨a1, n1, c1, rfl, hp1, hb1⟩)
  clear hp1 hW
  go_wp2
  go_ret3
  exact HT.out

set_option maxHeartbeats 1000000 in
theorem rall_any (a : Option Addr) (len cap : Nat) (zs : List Int) (w : World) (hr : Reads .u8 w a len cap zs) (hz : IsBytes zs) (hlen : len ≤ 10000) :
    Calls Try.prog 19 #[.slice a len cap] w fun e w' => ToldAll zs w e w' := by
  obtain ⟨i0, hi, hy0, hy1, hy2⟩ := info_parts Try.info22
  have HL : Hid (zs.length = len) := hr.size
  have hrm := hr.room
  have hmo := hr.most
  have HR := hid hr
  have HZ := hid hz
  clear hr hz
  go_enter Try.func19, Try.ntmps19
  go_wp2_with fail
  go_loopw [5, 6] (fun u i wr => ∃ (p n : Nat) (ls : List (List Int)), p ≤ len ∧ i = .int .i64 p ∧ n ≤ p ∧ Hid (RowsOf wr w.heap.size u n ls) ∧ Hid (AllAt zs ls p) ∧ Below w.heap.size w wr) (fun _ i _ => len - (intOf i).toNat)
  case atStart => exact ⟨0, 0, [], by omega, rfl, by omega, RowsOf.nil _ _, AllAt.start _, Below.refl _ _⟩
  case round =>
    obtain ⟨p, n, ls, hp, rfl, hn, HW, HA, hb⟩ := hrel
    have hsz := hb.size
    by_cases hlt : p < len
    · obtain ⟨b, off, rfl, _⟩ := HR.out.cell 0 (by omega)
      have hc : ¬ cap = p := by omega
      have hF := rparse_any _ _ _ _ wr ((HR.out.below hb).tail hlt) (HZ.out.drop p) (by omega)
      unfold Told at hF
      obtain ⟨x, m, f, hpar⟩ : ∃ x m f, parseF (zs.drop p) = (x, m, f) := ⟨_, _, _, rfl⟩
      rw [hpar] at hF
      by_cases hf : f = 0
      · subst hf
        obtain ⟨k, hk, _, hkl, hk8, _, _, hxb⟩ := parse_lay (HZ.out.drop p) (by rw [hpar])
        rw [hpar] at hk hxb
        simp only at hk hxb hF
        subst hk
        have hkl2 : p + k ≤ len := by simp [HL.out] at hkl; omega
        have HA2 := hid (HA.out.step (by have := HL.out; omega) hpar (by omega))
        have HX := hid hxb
        clear hxb hkl hpar
        go_wp2_with fail
        refine hF.mono ?_
        rintro e w2 ⟨a2, l2, c2, rfl, hr2, h52, hb2⟩
        have hs2 := hb2.size
        have hbA : Below w2.heap.size w2 (w2.alloc (.cells #[.slice a2 l2 c2] 22)) := (Below.refl _ _).alloc (Nat.le_refl _) _
        have HW2 := hid ((HW.out.below hb2).below hbA)
        have HR2 := hid (hr2.below hbA)
        have H52 := hid (h52.below hbA)
        have hb02 : Below w.heap.size w w2 := hb.trans (hb2.mono hsz)
        clear hF hr2 h52
        go_wp2_with (at_builtin; refine append_rows _ rfl (.tmp 27) (.tmp 29) 36 rfl w.heap.size i0 Try.underlying36 hi hy0 hy1 hy2 _ n ls rfl HW2.out (by omega) w2.heap.size a2 l2 c2 x rfl (by simp) HR2.out H52.out HX.out (by simp; omega) ?_; intro v3 w3 how3 hb3)
        have HW3 := hid how3
        clear how3
        go_wp2_with fail
        go_roundw
        case rel => exact ⟨p + k, n + 1, ls ++ [x], by omega, by go_num, by omega, HW3, HA2, hb02.trans (((Below.refl _ _).alloc (by omega) _).trans hb3)⟩
        case measure => simp [intOf]; omega
      · have HE := hid (HA.out.bad (by have := HL.out; omega) hpar hf)
        simp only at hF
        clear hpar
        go_wp2_with fail
        refine hF.mono ?_
        rintro e w2 ⟨a2, l2, c2, rfl, hr2, h52, hb2⟩
        have HW2 := hid (HW.out.below hb2)
        have hb02 : Below w.heap.size w w2 := hb.trans (hb2.mono hsz)
        clear hF hr2 h52
        go_wp2
        go_ret3
        exact ToldAll.of HE.out HW2.out hb02
    · have HE := hid (HA.out.stop (by have := HL.out; omega))
      go_wp2
      go_ret3
      exact ToldAll.of HE.out HW.out hb

end Go.Proofs.Ytlfppdblionfdaa
