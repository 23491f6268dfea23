/-
  Pick; what a ring that nobody made answers; the statements' loads.
-/
import Derived.Test.YtaiojhigomdocaaRnPick
import Derived.Test.YtaiojhigomdocaaRnArgs
namespace Go.Proofs.Ytaiojhigomdocaa
open Go.RowKit Go.Maps Go.Shelf Go.Sort
set_option linter.unusedVariables false
set_option maxRecDepth 1000000

/-- Pick's answers, of an order. -/
def pickZ (f : Int → Int) (b : Int) (l : List Int) : Int × Int := match l.find? fun x => decide (cntZ (f x) < b) with
  | some x => (x, 0)
  | none => (0, 6)
theorem ordL_sub {W : World} {B : Nat} {s : Int} {e M : Nat} {v : Value} {L : List Int} {P : List (Int × Int)} (h : RnAt W B s e M v L P) {x y : Int} (hy : y ∈ ordL s P x) : y ∈ L := by
  unfold ordL at hy
  rw [frs_mem, List.mem_map] at hy
  obtain ⟨p, hp, rfl⟩ := hy
  exact nodes_in h (rot_mem.1 hp)
theorem find_snoc {p : Int → Bool} {l : List Int} {k : Nat} {y : Int} (h : (l.take k).find? p = none) (hy : l[k]? = some y) : (p y = true → l.find? p = some y) ∧ (p y = false → (l.take (k + 1)).find? p = none) := by
  have e : l.take (k + 1) = l.take k ++ [y] := by rw [List.take_add_one, hy]; rfl
  refine ⟨fun hp => ?_, fun hp => ?_⟩
  · rw [← List.take_append_drop (k + 1) l, e, List.append_assoc, List.find?_append, h]
    simp [hp]
  · rw [e, List.find?_append, h]
    simp [hp]
set_option maxHeartbeats 4000000 in
theorem pick_any {W : World} {B : Nat} {s : Int} {e M : Nat} {v : Value} {L : List Int} {P : List (Int × Int)} (h : RnAt W B s e M v L P) {m : Nat} {f : Int → Int} (hl : LdAt W m f) (x fac : Int) :
    Calls Try.prog 16 #[.pointer (some ⟨B, 0, none⟩), .int .u64 x, .map (some m), .int .i64 fac] W fun r w' => r = .returned (.tuple #[.int .u64 (pickZ f (bndZ f fac L) (ordL s P x)).1, .int .i64 (pickZ f (bndZ f fac L) (ordL s P x)).2]) ∧ Hid (RowKit.Below W.heap.size W w') := by
  have hM := made_yes h.obj.cells.2.1 h.each.1
  have hBd := bound_any h hl fac
  obtain ⟨b, Hb⟩ : ∃ b, Hid (bndZ f fac L = b) := ⟨_, rfl⟩
  rw [Hb.out] at hBd ⊢
  have HO := hid fun (W' : World) (hb : RowKit.Below W.heap.size W W') => order_any (h.below hb) x
  obtain ⟨l, Hl⟩ : ∃ l, Hid (ordL s P x = l) := ⟨_, rfl⟩
  rw [Hl.out] at HO ⊢
  have HLU : Hid (∀ y ∈ l, isU y) := fun y hy => by
    rw [← Hl.out] at hy
    obtain ⟨_, _, _, _, _, hU⟩ := h.map
    exact hU y (ordL_sub h hy)
  have HLk := hid fun (W' : World) (hb : RowKit.Below W.heap.size W W') (y : Int) (hy : isU y) => (hl.below hb).look hy
  have HLn : Hid (l.length ≤ 64) := by
    unfold Hid
    rw [← Hl.out]
    exact Nat.le_trans (nodup_len _ L (frs_nodup _) fun y hy => ordL_sub h hy) h.len
  obtain ⟨Z, HZ⟩ : ∃ Z, Hid (pickZ f b l = Z) := ⟨_, rfl⟩
  rw [HZ.out]
  clear h hl Hb Hl
  go_enter Try.func16, Try.ntmps16
  go_wp2_with fail
  refine hM.mono ?_
  rintro r w1 ⟨rfl, rfl⟩
  clear hM
  go_wp2_with fail
  refine hBd.mono ?_
  rintro r w2 ⟨rfl, HB2⟩
  have hO := HO.out _ HB2.out
  clear hBd HO
  go_wp2_with fail
  refine hO.mono ?_
  rintro r w3 ⟨u, rfl, HR⟩
  clear hO
  have HB3 : Hid (RowKit.Below w1.heap.size w1 w3) := HB2.out.trans (HR.out.2.mono HB2.out.size)
  obtain ⟨a, cap, rfl, hr⟩ := Reads.own (k := .u64) HR.out.1
  obtain ⟨n, Hn⟩ : ∃ n, Hid (l.length = n) := ⟨_, rfl⟩
  have hn : n ≤ 64 := by rw [← Hn.out]; exact HLn.out
  rw [Hn.out] at hr ⊢
  have HRd := hid hr
  clear hr HR HB2 HLn
  go_wp2_with fail
  go_loopw [24] (fun z W' => ∃ k : Nat, k ≤ n ∧ z = .int .i64 k ∧ Hid ((l.take k).find? (fun y => decide (cntZ (f y) < b)) = none) ∧ W' = w3) (fun z _ => n - (intOf z).toNat)
  case atStart => exact ⟨0, by omega, rfl, by unfold Hid; simp, rfl⟩
  case round =>
  obtain ⟨k, hk, rfl, HF, rfl⟩ := hrel
  by_cases hkn : k < n
  · have g1 : (k : Int) < (n : Int) := by omega
    obtain ⟨g, off, rfl, hc⟩ := HRd.out.cell k hkn
    obtain ⟨y, Hy⟩ : ∃ y, Hid (l[k]? = some y) := ⟨l[k]'(by rw [Hn.out]; exact hkn), List.getElem?_eq_getElem _⟩
    rw [Hy.out] at hc
    have hc' : wr.cell? ⟨g, off + k, none⟩ = some (.int .u64 y) := hc
    have hlk := HLk.out _ HB3.out y (HLU.out y (List.mem_of_getElem? Hy.out))
    have hCn := counted_any (f y) wr
    obtain ⟨q, Hq⟩ : ∃ q, Hid (cntZ (f y) = q) := ⟨_, rfl⟩
    rw [Hq.out] at hCn
    have HS := hid (find_snoc HF.out Hy.out)
    clear hc
    go_wp2_with fail
    refine hCn.mono ?_
    rintro r w5 ⟨rfl, rfl⟩
    clear hCn
    by_cases hlt : q < b
    · have HE : Hid ((y, 0) = Z) := by
        unfold Hid
        rw [← HZ.out]
        unfold pickZ
        rw [HS.out.1 (by rw [Hq.out]; simpa using hlt)]
      go_wp2_with fail
      go_ret2
      exact ⟨by rw [← HE.out]; rfl, HB3⟩
    · have HN := hid (HS.out.2 (by rw [Hq.out]; simpa using hlt))
      go_wp2_with fail
      go_round
      case rel => exact ⟨k + 1, by omega, by go_num, HN, by first | rfl | trivial⟩
      case measure => simp [intOf]; omega
  · have g1 : ¬ (k : Int) < (n : Int) := by omega
    have HE : Hid ((0, 6) = Z) := by
      unfold Hid
      have := HF.out
      rw [List.take_of_length_le (by rw [Hn.out]; omega)] at this
      rw [← HZ.out]
      unfold pickZ
      rw [this]
    go_wp2_with fail
    go_ret2
    exact ⟨by rw [← HE.out]; rfl, HB3⟩
end Go.Proofs.Ytaiojhigomdocaa
