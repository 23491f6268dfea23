/-
  EnW1: Package engine: numbers in a row (UQ): what slices.IndexFunc, DeleteFunc, Delete and Clone do to them; without; over, textOf.
-/
import Derived.Test.YtjgggialnegddaaGreatPx04
import Derived.Test.YtjgggialnegddaaGreatPx02
import Derived.Test.YtjgggialnegddaaGreatPx11
namespace Go.Proofs.YtjgggialnegddaaGreat
open Go.RowKit Go.Maps
set_option linter.unusedVariables false
set_option maxRecDepth 1000000

/-- A row of numbers that may be turned. -/
def UQ (W : World) (v : Value) (ids : List Int) : Prop := W.ownsRow 0 22 1 v ids.length (ids.map (Value.int .u64))
theorem own_take {w : World} {base e n b cap : Nat} {xs : List Value} (h : w.ownsRow base e 1 (.slice (some ⟨b, 0, none⟩) n cap) n xs) {k : Nat} (hk : k ≤ n) : w.ownsRow base e 1 (.slice (some ⟨b, 0, none⟩) k cap) k (xs.take k) := by
  obtain ⟨h1, h2⟩ := h
  refine ⟨by rw [List.length_take, h1]; omega, ?_⟩
  rcases h2 with ⟨e, _⟩ | ⟨g, c, cur, e, h3, h4, h5, h6, h7, h8⟩
  · cases e
  · cases e
    refine .inr ⟨b, cap, cur, rfl, h3, h4, by omega, h6, h7, ?_⟩
    rw [← h8, List.take_take, Nat.min_eq_left (by omega), Nat.mul_one]
theorem row_sets {base T b n cap : Nat} : ∀ (us : List Value) (o : Nat) (vs : List Value) (W : World), W.ownsRow base T 1 (.slice (some ⟨b, 0, none⟩) n cap) n vs → o + us.length ≤ n →
    (W.setCells b o us).ownsRow base T 1 (.slice (some ⟨b, 0, none⟩) n cap) n (vs.take o ++ us ++ vs.drop (o + us.length))
  | [], o, vs, W, h, _ => by
    rw [List.length_nil, Nat.add_zero, List.append_nil, List.take_append_drop]
    exact h
  | u :: us, o, vs, W, h, hl => by
    rw [List.length_cons] at hl
    have hv : vs.length = n := by have := h.1; omega
    have := row_sets us (o + 1) _ _ (World.ownsRow.stored h o u).1 (by omega)
    rw [List.take_set, List.drop_set_of_lt (by omega)] at this
    rw [List.length_cons, show o + (us.length + 1) = o + 1 + us.length by omega]
    rw [show vs.take o ++ u :: us = (vs.take (o + 1)).set o u ++ us by
      rw [List.take_succ_eq_append_getElem (by omega), List.set_append_right _ _ (by rw [List.length_take]; omega)]
      simp [List.length_take, Nat.min_eq_left (show o ≤ vs.length by omega)]]
    exact this
theorem fb_sets {b : Nat} : ∀ (us : List Value) (o : Nat) (W : World), Fb (at1 b) W (W.setCells b o us)
  | [], o, W => Fb.refl _ _
  | u :: us, o, W => (Fb.set (F := at1 b) (w := W) (p := ⟨b, o, none⟩) (by exact rfl) u).trans (fb_sets us (o + 1) _) fun k hk => .inl hk
theorem zeroU (w : World) : (zeroValue 22).run Tryz.prog w = .ok (.int .u64 0) w := by kernel_rfl
/-- The rest of a row is cleared. -/
theorem row_clear {b n cap i : Nat} {vs : List Value} {W : World} (h : W.ownsRow 0 22 1 (.slice (some ⟨b, 0, none⟩) n cap) n vs) (hi : i < n) (c : Nat) (ty : TypeId) :
    ∃ W', (Builtin.clear_ #[59] ty #[.slice (some ⟨b, i, none⟩) (n - i) c]).run Tryz.prog W = .ok (.tuple #[]) W' ∧ W'.ownsRow 0 22 1 (.slice (some ⟨b, 0, none⟩) i cap) i (vs.take i) ∧ Fb (at1 b) W W' := by
  have hl : vs.length = n := by have := h.1; omega
  have hs := row_sets (List.replicate (n - i) (Value.int .u64 0)) i vs W h (by rw [List.length_replicate]; omega)
  refine ⟨_, Lib.run_clear_slice W _ _ ty (.int .u64 0) Tryz.underlying59 zeroU rfl rfl b i (n - i) c (by omega) (fun j hj => ?_) (fun j hj => World.ownsRow.frozenAt h _), ?_, fb_sets _ _ _⟩
  · rw [World.ownsRow.cellAt h _ (by omega), List.getElem?_eq_getElem (by omega)]
    rfl
  · have := own_take hs (k := i) (by omega)
    rw [List.append_assoc, List.take_append_of_le_length (by rw [List.length_take]; omega), List.take_take, Nat.min_self] at this
    exact this
theorem wclo_any (g : Nat) (x y : Int) (w : World) (hc : w.cell? ⟨g, 0, none⟩ = some (.int .u64 x)) (hx : isU x) (hy : isU y) : Calls Tryz.prog 93 #[.int .u64 y, .pointer (some ⟨g, 0, none⟩)] w fun e w' => e = .returned (.bool (decide (y = x))) ∧ w = w' := by
  go_enter Tryz.func93, Tryz.ntmps93
  go_wp2
  go_ret
  exact ⟨rfl, rfl⟩
/-- The closure of 'without'. -/
def woV (g : Nat) : Value := .func (.func 93) #[] #[.pointer (some ⟨g, 0, none⟩)]
theorem uidx_any (g : Nat) (x : Int) (a : Option Addr) (n cap : Nat) (ids : List Int) (w : World) (hr : Reads .u64 w a n cap ids) (hc : w.cell? ⟨g, 0, none⟩ = some (.int .u64 x)) (hx : isU x) (hi : ∀ y ∈ ids, isU y) :
    Calls Tryz.prog 118 #[.slice a n cap, woV g] w fun e w' => w = w' ∧ ((e = .returned (.int .i64 (-1)) ∧ x ∉ ids) ∨ ∃ i : Nat, e = .returned (.int .i64 i) ∧ i < n ∧ ids[i]? = some x ∧ x ∉ ids.take i) := by
  have r1 := hr.room
  have m1 := hr.most
  have hs := hr.size
  have HI : Hid (∀ k (hk : k < n), isU (ids[k]?.getD 0)) := fun k hk => by
    rw [List.getElem?_eq_getElem (by omega)]
    exact hi _ (List.getElem_mem _)
  have HC := hid fun (y : Int) (hy : isU y) => wclo_any g x y w hc hx hy
  have HR := hid hr
  have HS := hid hs
  clear hr hi hs
  unfold woV
  go_enter Tryz.func118, Tryz.ntmps118
  go_wp2_with fail
  go_loopw [8] (fun i W => ∃ k : Nat, k ≤ n ∧ i = .int .i64 k ∧ Hid (W = w) ∧ Hid (x ∉ ids.take k)) (fun i _ => n - (intOf i).toNat)
  case atStart => exact ⟨0, by omega, rfl, rfl, by unfold Hid; simp⟩
  case round =>
  obtain ⟨k, hk, rfl, HW, HN⟩ := hrel
  have hW := HW.out
  subst hW
  clear HW
  by_cases hlt : k < n
  · have q1 : (k : Int) < (n : Int) := by omega
    obtain ⟨b, off, rfl, hcell⟩ := HR.out.cell k hlt
    have hCl := HC.out _ (HI.out k hlt)
    have HE : Hid (ids[k]? = some (ids[k]?.getD 0)) := by
      unfold Hid
      rw [List.getElem?_eq_getElem (by rw [HS.out]; exact hlt)]
      rfl
    generalize ids[k]?.getD 0 = y at *
    go_wp2_with fail
    refine hCl.mono ?_
    rintro e w' ⟨rfl, rfl⟩
    clear hCl hcell
    by_cases e : y = x
    · subst e
      rw [decide_eq_true rfl]
      clear HC HI
      go_wp2
      go_ret
      exact ⟨rfl, .inr ⟨k, rfl, hlt, HE.out, HN.out⟩⟩
    · rw [decide_eq_false e]
      have HN2 : Hid (x ∉ ids.take (k + 1)) := fun hm => by
        rw [List.take_add_one, HE.out] at hm
        rcases List.mem_append.1 hm with h' | h'
        · exact HN.out h'
        · simp at h'
          exact e h'.symm
      clear HN HE
      go_wp2_with fail
      go_round
      case rel => exact ⟨k + 1, by omega, by go_num, trivial, HN2⟩
      case measure => simp [intOf]; omega
  · obtain rfl : k = n := by omega
    have q1 : ¬ (k : Int) < (k : Int) := by omega
    have HN2 : Hid (x ∉ ids) := by
      have := HN.out
      rw [List.take_of_length_le (by rw [HS.out]; exact Nat.le_refl _)] at this
      exact this
    clear HN HI HR HC
    go_wp2
    go_ret
    exact ⟨rfl, .inl ⟨rfl, HN2.out⟩⟩
/-- The numbers but one. -/
def butL (ids : List Int) (x : Int) : List Int := ids.filter fun y => !(y == x)
theorem butL_app (xs ys : List Int) (x : Int) : butL (xs ++ ys) x = butL xs x ++ butL ys x := List.filter_append ..
theorem butL_none {ids : List Int} {x : Int} (h : x ∉ ids) : butL ids x = ids := by
  unfold butL
  rw [List.filter_eq_self]
  intro y hy
  have : y ≠ x := fun e => h (e ▸ hy)
  simpa using this
theorem butL_yes (x : Int) : butL [x] x = [] := by simp [butL]
theorem butL_no {y x : Int} (h : y ≠ x) : butL [y] x = [y] := by simp [butL, h]
theorem butL_len (ids : List Int) (x : Int) : (butL ids x).length ≤ ids.length := List.length_filter_le ..
/-- What a row's rounds of DeleteFunc carry: i numbers are kept of the first j. -/
def DelI (w : World) (b n cap : Nat) (ids : List Int) (x : Int) (i j : Nat) (W : World) : Prop :=
  ∃ xs : List Int, xs.length = n ∧ xs.take i = butL (ids.take j) x ∧ xs.drop j = ids.drop j ∧ W.ownsRow 0 22 1 (.slice (some ⟨b, 0, none⟩) n cap) n (xs.map (Value.int .u64)) ∧ Fb (at1 b) w W
theorem DelI.skip {w W : World} {b n cap : Nat} {ids : List Int} {x : Int} {i j : Nat} (h : DelI w b n cap ids x i j W) (hj : ids[j]? = some x) : DelI w b n cap ids x i (j + 1) W := by
  obtain ⟨xs, h1, h2, h3, h4, h5⟩ := h
  refine ⟨xs, h1, ?_, ?_, h4, h5⟩
  · rw [List.take_add_one, hj, Option.toList_some, butL_app, butL_yes, List.append_nil]
    exact h2
  · rw [← List.drop_drop, h3, List.drop_drop]
theorem DelI.keep {w W : World} {b n cap : Nat} {ids : List Int} {x y : Int} {i j : Nat} (h : DelI w b n cap ids x i j W) (hj : ids[j]? = some y) (hy : y ≠ x) (hij : i < j) (hjn : j < n) : DelI w b n cap ids x (i + 1) (j + 1) (W.setCell ⟨b, i, none⟩ (.int .u64 y)) := by
  obtain ⟨xs, h1, h2, h3, h4, h5⟩ := h
  refine ⟨xs.set i y, by rw [List.length_set]; exact h1, ?_, ?_, ?_, h5.trans (Fb.set (F := at1 b) (by exact rfl) _) fun k hk => .inl hk⟩
  · rw [List.take_add_one (l := ids), hj, Option.toList_some, butL_app, butL_no hy, ← h2, List.take_set, List.take_succ_eq_append_getElem (by omega), List.set_append_right _ _ (by rw [List.length_take]; omega)]
    simp [List.length_take, Nat.min_eq_left (show i ≤ xs.length by omega)]
  · rw [List.drop_set_of_lt (by omega), ← List.drop_drop, h3, List.drop_drop]
  · have := (World.ownsRow.stored h4 i (.int .u64 y)).1
    rw [← List.map_set] at this
    exact this
set_option maxHeartbeats 1000000 in
theorem udel_any (g : Nat) (x : Int) (v : Value) (ids : List Int) (w : World) (h : UQ w v ids) (hc : w.cell? ⟨g, 0, none⟩ = some (.int .u64 x)) (hg : v.ownBlock ≠ some g) (hx : isU x) (hi : ∀ y ∈ ids, isU y) :
    Calls Tryz.prog 92 #[v, woV g] w fun e w' => ∃ v', e = .returned v' ∧ UQ w' v' (butL ids x) ∧ v'.ownBlock = v.ownBlock ∧ Fb (fun k => v.ownBlock = some k) w w' := by
  obtain ⟨a, cap, rfl, hr⟩ := Reads.own (k := .u64) h
  have hX := uidx_any g x a ids.length cap ids w hr hc hx hi
  have r1 := hr.room
  have m1 := hr.most
  have HI : Hid (∀ k, k < ids.length → isU (ids[k]?.getD 0)) := fun k hk => by
    rw [List.getElem?_eq_getElem hk]
    exact hi _ (List.getElem_mem _)
  have HU := hid h
  obtain ⟨n, hn⟩ : ∃ n, ids.length = n := ⟨_, rfl⟩
  have HN := hid hn
  rw [hn] at hX r1 HI ⊢
  have HC := hid hc
  have HG := hid hg
  clear h hr hc hg hi hn
  go_enter Tryz.func92, Tryz.ntmps92
  go_wp2_with fail
  refine hX.mono ?_
  rintro e w' ⟨rfl, hX2⟩
  clear hX
  rcases hX2 with ⟨rfl, hno⟩ | ⟨i0, rfl, hi0, hat, hno⟩
  · have HR : Hid (UQ w (.slice a n cap) (butL ids x)) := by
      unfold Hid
      rw [butL_none hno, ← HN.out]
      exact HU.out
    clear HI HU HC HG HN hno
    go_wp2
    go_ret
    exact ⟨_, rfl, HR.out, rfl, Fb.refl _ _⟩
  · obtain ⟨b, rfl⟩ : ∃ b, a = some ⟨b, 0, none⟩ := by
      rcases id HU.out.2 with ⟨e, h0⟩ | ⟨b, c, cur, e, _⟩
      · rw [HN.out] at h0; omega
      · cases e; exact ⟨b, rfl⟩
    have HD : Hid (DelI w b n cap ids x i0 (i0 + 1) w) := by
      have h4 := HU.out
      unfold UQ at h4
      rw [HN.out] at h4
      refine ⟨ids, HN.out, ?_, rfl, h4, Fb.refl _ _⟩
      rw [List.take_add_one, hat, Option.toList_some, butL_app, butL_yes, List.append_nil, butL_none hno]
    clear HU hno hat
    have hgb : ¬ g = b := fun e => HG.out (by rw [e]; rfl)
    have s1 : ¬ (i0 : Int) = -1 := by omega
    have s0 : ((i0 : Int) == -1) = false := by simp
    unfold woV
    go_wp2_with fail
    go_loopw [5, 6] (fun u z W => ∃ i j : Nat, i < j ∧ j ≤ n ∧ u = .int .i64 i ∧ z = .int .i64 j ∧ Hid (DelI w b n cap ids x i j W)) (fun _ z _ => n - (intOf z).toNat)
    case atStart => exact ⟨i0, i0 + 1, by omega, by omega, rfl, by go_num, HD⟩
    case round =>
    obtain ⟨i, j, hij, hjn, rfl, rfl, HD2⟩ := hrel
    rename World => wr
    clear HD
    by_cases hlt : j < n
    · have q1 : (j : Int) < (n : Int) := by omega
      obtain ⟨xs, h1, h2, h3, h4, h5⟩ := HD2.out
      have hxj : xs[j]? = ids[j]? := by
        have := congrArg (fun l => l[0]?) h3
        simpa using this
      have HE : Hid (ids[j]? = some (ids[j]?.getD 0)) := by
        unfold Hid
        rw [List.getElem?_eq_getElem (by rw [HN.out]; exact hlt)]
        rfl
      have hcell : wr.cell? ⟨b, 0 + j, none⟩ = some (.int .u64 (ids[j]?.getD 0)) := by
        rw [Nat.zero_add, World.ownsRow.cellAt h4 j (by omega), List.getElem?_map, hxj, HE.out]
        rfl
      have hcl := wclo_any g x (ids[j]?.getD 0) wr (h5.cell HC.out fun e => hgb e) hx (HI.out j hlt)
      have hfi : wr.frozen? ⟨b, i, none⟩ = false := World.ownsRow.frozenAt h4 i
      have hci : ∃ u, wr.cell? ⟨b, i, none⟩ = some u := by
        rw [World.ownsRow.cellAt h4 i (by omega), List.getElem?_map, List.getElem?_eq_getElem (by omega)]
        exact ⟨_, rfl⟩
      obtain ⟨u0, hci⟩ := hci
      generalize ids[j]?.getD 0 = y at *
      clear h1 h2 h3 h4 h5 hxj
      rw [Nat.zero_add] at hcell
      go_wp2_with fail
      refine hcl.mono ?_
      rintro e w' ⟨rfl, rfl⟩
      clear hcl hcell
      by_cases e : y = x
      · subst e
        rw [decide_eq_true rfl]
        have HD3 := hid (HD2.out.skip HE.out)
        clear HD2 HE
        go_wp2_with fail
        go_round
        case rel => exact ⟨i, j + 1, by omega, by omega, rfl, by go_num, HD3⟩
        case measure => simp [intOf]; omega
      · rw [decide_eq_false e]
        have HD3 := hid (HD2.out.keep HE.out e hij hlt)
        clear HD2 HE
        go_wp2_with fail
        go_round
        case rel => exact ⟨i + 1, j + 1, by omega, by omega, by go_num, by go_num, HD3⟩
        case measure => simp [intOf]; omega
    · obtain rfl : j = n := by omega
      have q1 : ¬ (j : Int) < (j : Int) := by omega
      obtain ⟨xs, h1, h2, h3, h4, h5⟩ := HD2.out
      obtain ⟨W', hcl, hO, hf⟩ := row_clear h4 hij (cap - i) 0
      rw [List.take_of_length_le (l := ids) (by rw [HN.out]; exact Nat.le_refl _)] at h2
      have hO2 : UQ W' (.slice (some ⟨b, 0, none⟩) i cap) (butL ids x) := by
        unfold UQ
        rw [← h2, List.length_take, h1, Nat.min_eq_left (by omega), List.map_take]
        exact hO
      have HO2 := hid hO2
      have HF : Hid (Fb (fun k => some b = some k) w W') := (h5.trans hf fun k hk => .inl hk).mono fun k hk => congrArg some (Eq.symm hk)
      have s2 : ¬ cap = i := by omega
      clear h1 h2 h3 h4 h5 hO hf hO2 HD2 HI HC HG HN
      go_wp2_with fail
      go_ret
      exact ⟨_, rfl, HO2.out, rfl, HF.out⟩
theorem without_any (v : Value) (ids : List Int) (x : Int) (w : World) (h : UQ w v ids) (hx : isU x) (hi : ∀ y ∈ ids, isU y) :
    Calls Tryz.prog 65 #[v, .int .u64 x] w fun e w' => ∃ v', e = .returned v' ∧ UQ w' v' (butL ids x) ∧ v'.ownBlock = v.ownBlock ∧ Fb (fun k => v.ownBlock = some k) w w' := by
  have hb : Below w.heap.size w (w.alloc (.cells #[.int .u64 x] 22)) := (Below.refl _ _).alloc (Nat.le_refl _) _
  have hD := udel_any w.heap.size x v ids (w.alloc (.cells #[.int .u64 x] 22)) (World.ownsRow.alloc h _) (by rw [cell_of_row _ _ _ _ _ _ (heap_alloc_new w _)]; rfl) (fun e => by have := (World.ownsRow.lt h _ e).2; omega) hx hi
  have HB := hid hb
  unfold woV at hD
  clear hb h
  go_enter Tryz.func65, Tryz.ntmps65
  go_wp2_with fail
  refine hD.mono ?_
  rintro e w' ⟨v', rfl, h1, h2, h3⟩
  have HR := hid h1
  have HF := hid ((Fb.of (F := fun k => v.ownBlock = some k) HB.out).trans h3 fun k hk => .inl hk)
  clear hD h1 h3 HB
  go_wp2
  go_ret
  exact ⟨_, rfl, HR.out, h2, HF.out⟩
end Go.Proofs.YtjgggialnegddaaGreat
