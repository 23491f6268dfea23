/-
  Contracts: msg.Lay hands back a message's bytes, or the error; msg.Parse the message of bytes, or the error. A load of a message that may be has at most 2048 bytes.
-/
import Derived.Test.YtlcfjhlchpeedaaAlive
namespace Go.Proofs.Ytlcfjhlchpeedaa
open Go.RowKit
open M
set_option linter.unusedVariables false
set_option maxRecDepth 1000000

theorem toks_small {l : List Int} (h : ∀ x ∈ l, 0 ≤ x ∧ x ≤ 63) : (encsZ l).length = l.length := by
  induction l with
  | nil => rfl
  | cons x l ih =>
    have hx := h x (by simp)
    rw [encsZ_cons, encZ_small hx.1 (by omega), List.length_append, ih fun y hy => h y (by simp [hy])]
    simp; omega
theorem encZ_two {n : Int} (h0 : 0 ≤ n) (h1 : n ≤ 16383) : (encZ n).length ≤ 2 := by
  by_cases h : n < 128
  · rw [encZ_small h0 h]; simp
  · rw [encZ_big (by omega), encZ_small (by omega) (by omega)]; simp
theorem nums_len {m : Mg} {c : Int} (hc : Letter c) (hf : Fits m) (hm : mayC m c = true) : (encsZ (numsC m c)).length ≤ 270 := by
  rcases hc with rfl | rfl | rfl | rfl | rfl | rfl | rfl | rfl | rfl
  iterate 7
    have h1 := encsZ_len (nums_u64 (by unfold Letter; simp) hf hm).1
    simp [numsC] at h1 ⊢
    omega
  · have h0 : (0 ≤ m.most ∧ m.most ≤ 256) ∧ toksB m.pr = true := by unfold mayC at hm; simpa using hm
    have hl := toksB_len h0.2
    have e1 : numsC m 106 = m.seed :: m.most :: (m.pr.length : Int) :: m.pr := rfl
    have a1 := (encZ_len hf.seed.2).2
    have a2 := encZ_two h0.1.1 (by omega)
    have a3 := encZ_two (n := (m.pr.length : Int)) (by omega) (by omega)
    have a4 := toks_small fun x hx => toksB_at h0.2 x hx
    rw [e1, encsZ_cons, encsZ_cons, encsZ_cons, List.length_append, List.length_append, List.length_append]
    omega
  · have h0 : toksB m.li = true := by unfold mayC at hm; simpa using hm
    have hl := toksB_len h0
    have e1 : numsC m 108 = (m.li.length : Int) :: m.li := rfl
    have a3 := encZ_two (n := (m.li.length : Int)) (by omega) (by omega)
    have a4 := toks_small fun x hx => toksB_at h0 x hx
    rw [e1, encsZ_cons, List.length_append]
    omega
theorem flat_len {m : Mg} (hf : Fits m) : ∀ L : List Int, (∀ c ∈ L, Letter c ∧ mayC m c = true) → (encsZ (L.flatMap (numsC m))).length ≤ 270 * L.length
  | [], _ => by simp [encsZ]
  | c :: L, h => by
    obtain ⟨h1, h2⟩ := h c (by simp)
    have h3 := nums_len h1 hf h2
    have h4 := flat_len hf L fun d hd => h d (by simp [hd])
    rw [List.flatMap_cons, encsZ_append, List.length_append, List.length_cons]
    omega
theorem load_len {m : Mg} (h : mayA m = true) (hf : Fits m) : (loadF m).length ≤ 2048 := by
  obtain ⟨⟨k1, k2⟩, hall⟩ := may_parts h
  have h1 := flat_len hf (lettersF m.kind) fun c hc => ⟨lettersF_ok _ c hc, hall c hc⟩
  have h2 := lettersF_len m.kind
  have h3 := (encZ_len (n := m.kind) (by omega)).2
  unfold loadF loadN
  rw [encsZ_cons, List.length_append]
  omega
theorem load_bytes (m : Mg) : IsBytes (loadF m) := encsZ_bytes _

/-- What Lay has done. -/
def LayOut (m : Mg) (w : World) (x : Ending) (w' : World) : Prop :=
  (mayA m = true ∧ (∃ v', x = .returned (.tuple #[v', .int .i64 0]) ∧ w'.ownsRow w.heap.size 5 1 v' (layL (loadF m)).length ((layL (loadF m)).map (Value.int .u8))) ∧ Below w.heap.size w w') ∨
  (mayA m = false ∧ x = .returned (.tuple #[.slice none 0 0, .int .i64 1]) ∧ Below w.heap.size w w')

set_option maxHeartbeats 4000000 in
theorem laym_any (m : Mg) (p q : Sl) (w : World) (hm : MsgIn w m p q) (hf : Fits m) :
    Calls Try.prog 13 #[.agg (MV m p q)] w fun x w' => LayOut m w x w' := by
  have hL := load_any m p q _ (hm.alloc (.cells (MV m p q) 34)) hf
  have HF := hid hf
  clear hm hf
  unfold MV at hL ⊢
  go_enter Try.func13, Try.ntmps13
  go_wp2_with fail
  refine hL.mono ?_
  rintro x w1 (⟨hmay, ⟨v1, rfl, how1⟩, hb1⟩ | ⟨hmay, rfl, hb1⟩)
  · have HMay := hid hmay
    have HB1 : Hid (Below w.heap.size w w1) := (by go_grown : Below w.heap.size w _).trans (hb1.mono (by go_size))
    obtain ⟨a1, c1, rfl, hr1⟩ := Reads.own how1
    have hY := lay_ok a1 _ c1 _ w1 hr1 (load_bytes m) (load_len hmay HF.out)
    have hs1 := HB1.out.size
    clear hL how1 hr1 hb1 hmay
    go_wp2_with fail
    refine hY.mono ?_
    rintro x w2 ⟨v2, rfl, how2, hb2⟩
    have HO := hid (own_base (B := w.heap.size) how2 hs1)
    have HB2 := hid (HB1.out.trans (hb2.mono hs1))
    clear hY how2 hb2
    go_wp2_with fail
    go_ret2
    exact .inl ⟨HMay.out, ⟨_, rfl, HO.out⟩, HB2.out⟩
  · have HMay := hid hmay
    have HB1 : Hid (Below w.heap.size w w1) := (by go_grown : Below w.heap.size w _).trans (hb1.mono (by go_size))
    clear hL hb1 hmay
    go_wp2_with fail
    go_ret2
    exact .inr ⟨HMay.out, rfl, HB1.out⟩

/-- The message of bytes, and the error. -/
def parseM (zs : List Int) : Mg × Int := if (oneF zs).2 ≠ 0 then (zeroM 0, (oneF zs).2) else readF (oneF zs).1

theorem one_bytes {zs : List Int} (hz : IsBytes zs) : IsBytes (oneF zs).1 ∧ (oneF zs).1.length ≤ 2048 := by
  rcases one_cases hz with ⟨h1, h2⟩ | ⟨n, h1, h2, h3, h4⟩ | ⟨n, h1, h2, h3, h4⟩
  · rw [h2]; exact ⟨fun x hx => by simp at hx, by simp⟩
  · rw [h4]; exact ⟨fun x hx => by simp at hx, by simp⟩
  · rw [h4]
    obtain ⟨k, _, _, _, _, g1, _, g2⟩ := parse_lay hz h1
    exact ⟨g2, g1⟩
theorem lay_one {xs : List Int} (h : xs.length ≤ 2048) : oneF (layL xs) = (xs, 0) := by
  have h1 := lay_parse h []
  rw [List.append_nil] at h1
  unfold oneF
  rw [h1]
  simp
theorem parse_laid {m : Mg} (h : mayA m = true) (hf : Fits m) : parseM (layL (loadF m)) = (m, 0) := by
  unfold parseM
  rw [lay_one (load_len h hf)]
  simp [read_load h hf]

set_option maxHeartbeats 4000000 in
theorem parsem_any (a : Option Addr) (l c : Nat) (zs : List Int) (w : World) (hr : Reads .u8 w a l c zs) (hz : IsBytes zs) (hl : l ≤ 100000) :
    Calls Try.prog 21 #[.slice a l c] w fun x w' => ReadOut (parseM zs) w x w' := by
  have hO := one_any a l c zs (w.alloc (.cells (MV (zeroM 0) ⟨none, 0, 0⟩ ⟨none, 0, 0⟩) 34)) (hr.below (by go_grown)) hz hl
  have HPM : Hid (parseM zs = if (oneF zs).2 ≠ 0 then (zeroM 0, (oneF zs).2) else readF (oneF zs).1) := rfl
  obtain ⟨ob, ol⟩ := one_bytes hz
  have HOB := hid ob
  unfold Told1 at hO
  rw [MV_zero] at hO
  generalize oneF zs = r at *
  obtain ⟨ys, f⟩ := r
  simp only at *
  clear hr hz ob
  go_enter Try.func21, Try.ntmps21
  go_wp2_with fail
  refine hO.mono ?_
  rintro x w1 ⟨a1, l1, c1, rfl, hr1, hb1⟩
  have HB1 : Hid (Below w.heap.size w w1) := (by go_grown : Below w.heap.size w _).trans (hb1.mono (by go_size))
  have HC1 : Hid (w1.heap[w.heap.size]? = some (.cells (MV (zeroM 0) ⟨none, 0, 0⟩ ⟨none, 0, 0⟩) 34)) := block_below (heap_alloc_new w _) hb1
  have HR1 := hid hr1
  have hl1 : l1 ≤ 2048 := by have := hr1.size; omega
  clear hO hr1 hb1
  by_cases hf : f = 0
  · subst hf
    have hR := read_any a1 l1 c1 ys w1 HR1.out HOB.out (by omega)
    rw [if_neg (by simp)] at HPM
    unfold ReadOut at hR
    rw [← HPM.out] at hR
    obtain ⟨m, g, HMG⟩ : ∃ m g, Hid (parseM zs = (m, g)) := ⟨_, _, rfl⟩
    rw [HMG.out] at hR
    simp only at hR
    unfold MV at hR
    clear HR1 HOB HPM
    go_wp2_with fail
    refine hR.mono ?_
    rintro x w2 ⟨p, q, rfl, hin, hb2, hown⟩
    have HB2 := hid (HB1.out.trans (hb2.mono HB1.out.size))
    have HC2 := hid (block_below HC1.out hb2)
    have HOW := hid hown
    have hs1 := (Array.getElem?_eq_some_iff.1 HC1.out).1
    obtain ⟨d0, d1, d2, d3, d4, d5, d6, d7, d8, d9, d10, d11⟩ := MV_cells HC2.out
    have hfz := fun j => Joins.unfrozen_of_block HC2.out j
    simp only [zeroM] at d0 d1 d2 d3 d4 d5 d6 d7 d8 d9 d10 d11
    clear hR hin hb2 hown HB1 HC1
    go_wp2_with fail
    change bodyPost _ _ _ _ _ (setMsg w2 w.heap.size m p q)
    have hb9 := setMsg_block (m := m) (p := p) (q := q) HC2.out
    have hbt9 := setMsg_but w2 w.heap.size m p q
    clear d0 d1 d2 d3 d4 d5 d6 d7 d8 d9 d10 d11 hfz HC2
    generalize setMsg w2 w.heap.size m p q = w9 at *
    obtain ⟨e0, e1, e2, e3, e4, e5, e6, e7, e8, e9, e10, e11⟩ := MV_cells hb9
    have HOW9 := HOW.out.but hbt9 (by simp; omega)
    refine bodyPost_ret (v := .tuple #[.agg (MV m p q), .int .i64 g]) (by simp [results, Try.results21, go_sem, MV, *]) rfl ?_
    rw [HMG.out]
    exact ⟨p, q, rfl, HOW9.in, HB2.out.trans (hbt9.to (by simp) HB2.out.size), HOW9.low (by omega)⟩
  · rw [if_pos (by simpa using hf)] at HPM
    obtain ⟨d0, d1, d2, d3, d4, d5, d6, d7, d8, d9, d10, d11⟩ := MV_cells HC1.out
    have hfz := fun j => Joins.unfrozen_of_block HC1.out j
    simp only [zeroM] at d0 d1 d2 d3 d4 d5 d6 d7 d8 d9 d10 d11
    clear HR1 HOB
    go_wp2_with fail
    change bodyPost _ _ _ _ _ (setMsg w1 w.heap.size (zeroM 0) ⟨none, 0, 0⟩ ⟨none, 0, 0⟩)
    have hb9 := setMsg_block (m := zeroM 0) (p := ⟨none, 0, 0⟩) (q := ⟨none, 0, 0⟩) HC1.out
    have hbt9 := setMsg_but w1 w.heap.size (zeroM 0) ⟨none, 0, 0⟩ ⟨none, 0, 0⟩
    clear d0 d1 d2 d3 d4 d5 d6 d7 d8 d9 d10 d11 hfz HC1
    generalize setMsg w1 w.heap.size (zeroM 0) ⟨none, 0, 0⟩ ⟨none, 0, 0⟩ = w9 at *
    obtain ⟨e0, e1, e2, e3, e4, e5, e6, e7, e8, e9, e10, e11⟩ := MV_cells hb9
    refine bodyPost_ret (v := .tuple #[.agg (MV (zeroM 0) ⟨none, 0, 0⟩ ⟨none, 0, 0⟩), .int .i64 f]) (by simp [results, Try.results21, go_sem, MV, *]) rfl ?_
    rw [HPM.out]
    exact ⟨⟨none, 0, 0⟩, ⟨none, 0, 0⟩, rfl, zero_in _ 0, HB1.out.trans (hbt9.to (by simp) HB1.out.size), zero_own _ _ 0⟩

end Go.Proofs.Ytlcfjhlchpeedaa
