/-
  The message of a message's load is the message; what is read may be, and its load is what was read.
-/
import Derived.Test.YtlcfjhlchpeedaaLoad
namespace Go.Proofs.Ytlcfjhlchpeedaa
open M
set_option linter.unusedVariables false

theorem field_back {m out : Mg} {c : Int} (rest : List Int) (hc : Letter c) (hf : Fits m) (hm : mayC m c = true) : fieldF out (encsZ (numsC m c) ++ rest) 0 c = (keepC m out c, rest, 0) := by
  rcases hc with rfl | rfl | rfl | rfl | rfl | rfl | rfl | rfl | rfl
  · simp [fieldF, numsC, keepC, encsZ_one, numF_back rest hf.st.1 hf.st.2 (by omega)]
  · simp [fieldF, numsC, keepC, encsZ_one, numF_back rest hf.se.1 hf.se.2 (by omega)]
  · simp [fieldF, numsC, keepC, encsZ_one, numF_back rest hf.ate.1 hf.ate.2 (by omega)]
  · simp [fieldF, numsC, keepC, encsZ_one, numF_back rest hf.inc.1 hf.inc.2 (by omega)]
  · simp [fieldF, numsC, keepC, encsZ_one, numF_back rest hf.n.1 hf.n.2 (by omega)]
  · simp [fieldF, numsC, keepC, encsZ_one, numF_back rest hf.cnt.1 hf.cnt.2 (by omega)]
  · have h0 : 0 ≤ m.why ∧ m.why ≤ 255 := by unfold mayC at hm; simpa using hm
    simp [fieldF, numsC, keepC, encsZ_one, numF_back rest h0.1 h0.2 (by omega)]
  · have h0 : (0 ≤ m.most ∧ m.most ≤ 256) ∧ toksB m.pr = true := by unfold mayC at hm; simpa using hm
    have e1 : numsC m 106 = m.seed :: m.most :: (m.pr.length : Int) :: m.pr := rfl
    have e2 := numF_back (encZ m.most ++ (encZ m.pr.length ++ (encsZ m.pr ++ rest))) hf.seed.1 hf.seed.2 (by omega)
    have e3 := numF_back (encZ m.pr.length ++ (encsZ m.pr ++ rest)) h0.1.1 h0.1.2 (by omega)
    have e4 := listF_back rest h0.2
    rw [e1, encsZ_cons, encsZ_cons, encsZ_cons, List.append_assoc, List.append_assoc, List.append_assoc]
    simp [fieldF, keepC, e2, e3, e4]
  · have h0 : toksB m.li = true := by unfold mayC at hm; simpa using hm
    have e1 : numsC m 108 = (m.li.length : Int) :: m.li := rfl
    have e4 := listF_back rest h0
    rw [e1, encsZ_cons, List.append_assoc]
    simp [fieldF, keepC, e4]
theorem fields_back {m : Mg} (hf : Fits m) (rest : List Int) : ∀ (L : List Int) (out : Mg), (∀ c ∈ L, Letter c ∧ mayC m c = true) → fieldsF L out (encsZ (L.flatMap (numsC m)) ++ rest) 0 = (L.foldl (keepC m) out, rest, 0)
  | [], out, _ => by simp [fieldsF, encsZ]
  | c :: L, out, h => by
    obtain ⟨h1, h2⟩ := h c (by simp)
    rw [List.flatMap_cons, encsZ_append, List.append_assoc, fieldsF, field_back _ h1 hf h2]
    exact fields_back hf rest L _ fun d hd => h d (by simp [hd])
theorem read_load {m : Mg} (h : mayA m = true) (hf : Fits m) : readF (loadF m) = (m, 0) := by
  obtain ⟨⟨k1, k2⟩, hall⟩ := may_parts h
  have hk : kindF (encZ m.kind ++ encsZ ((lettersF m.kind).flatMap (numsC m))) = (m.kind, encsZ ((lettersF m.kind).flatMap (numsC m)), 0) := by
    unfold kindF
    rw [numF_back _ (by omega) (by omega) (by omega)]
    simp
    omega
  have hb := fields_back hf [] (lettersF m.kind) (zeroM m.kind) fun c hc => ⟨lettersF_ok _ c hc, hall c hc⟩
  rw [List.append_nil] at hb
  have hs : (lettersF m.kind).foldl (keepC m) (zeroM m.kind) = m := by
    rw [may_eq] at h
    unfold mayR at h
    simp only [Bool.and_eq_true] at h
    exact (sameB_iff _ _).1 h.2
  have he : loadF m = encZ m.kind ++ encsZ ((lettersF m.kind).flatMap (numsC m)) := by unfold loadF loadN; rw [encsZ_cons]
  unfold readF fieldsOfF
  rw [he, hk, hb, hs]
  simp

/-- What stands in the field of a letter. -/
def fldC (m : Mg) (c : Int) : Int × Int × List Int :=
  if c = 115 then (m.st, 0, []) else if c = 101 then (m.se, 0, []) else if c = 97 then (m.ate, 0, []) else if c = 105 then (m.inc, 0, []) else if c = 110 then (m.n, 0, []) else if c = 99 then (m.cnt, 0, []) else if c = 119 then (m.why, 0, [])
  else if c = 106 then (m.seed, m.most, m.pr) else if c = 108 then (0, 0, m.li) else (0, 0, [])
theorem fld_same {m m' : Mg} {c : Int} (hc : Letter c) (h : fldC m c = fldC m' c) : numsC m c = numsC m' c ∧ mayC m c = mayC m' c ∧ ∀ x, keepC m x c = keepC m' x c := by
  rcases hc with rfl | rfl | rfl | rfl | rfl | rfl | rfl | rfl | rfl <;> (simp [fldC] at h; simp [numsC, mayC, keepC, h])
theorem fld_other {m x : Mg} {c d : Int} (hc : Letter c) (hd : Letter d) (h : c ≠ d) : fldC (keepC m x d) c = fldC x c := by
  rcases hc with rfl | rfl | rfl | rfl | rfl | rfl | rfl | rfl | rfl <;> rcases hd with rfl | rfl | rfl | rfl | rfl | rfl | rfl | rfl | rfl <;> first | exact absurd rfl h | rfl
theorem fld_fold {m : Mg} {c : Int} (hc : Letter c) : ∀ (L : List Int) (x : Mg), (∀ d ∈ L, Letter d ∧ c ≠ d) → fldC (L.foldl (keepC m) x) c = fldC x c
  | [], x, _ => rfl
  | d :: L, x, h => by
    obtain ⟨h1, h2⟩ := h d (by simp)
    rw [List.foldl_cons, fld_fold hc L _ fun e he => h e (by simp [he]), fld_other hc h1 h2]

theorem field_ok {m : Mg} {zs : List Int} {e c : Int} (hc : Letter c) (hz : IsBytes zs) (h : (fieldF m zs e c).2.2 = 0) :
    e = 0 ∧ mayC (fieldF m zs e c).1 c = true ∧ zs = encsZ (numsC (fieldF m zs e c).1 c) ++ (fieldF m zs e c).2.1 ∧ keepC (fieldF m zs e c).1 m c = (fieldF m zs e c).1 := by
  rcases hc with rfl | rfl | rfl | rfl | rfl | rfl | rfl | rfl | rfl
  iterate 6
    obtain ⟨h1, h2, h3, h4⟩ := numF_ok (most := 18446744073709551615) hz h
    exact ⟨h1, rfl, (encsZ_one _).symm ▸ h2, rfl⟩
  · obtain ⟨h1, h2, h3, h4⟩ := numF_ok (most := 255) hz h
    exact ⟨h1, decide_eq_true ⟨h3, h4⟩, (encsZ_one _).symm ▸ h2, rfl⟩
  · have hz1 := (numF_bd hz e (most := 18446744073709551615) (by omega)).2.1
    have hz2 := (numF_bd hz1 (numF zs e 18446744073709551615).2.2 (most := 256) (by omega)).2.1
    obtain ⟨g1, g2, g3⟩ := listF_ok hz2 h
    obtain ⟨h1, h2, h3, h4⟩ := numF_ok (most := 256) hz1 g1
    obtain ⟨i1, i2, i3, i4⟩ := numF_ok (most := 18446744073709551615) hz h1
    refine ⟨i1, ?_, ?_, rfl⟩
    · show (decide (0 ≤ (numF (numF zs e 18446744073709551615).2.1 (numF zs e 18446744073709551615).2.2 256).1 ∧ (numF (numF zs e 18446744073709551615).2.1 (numF zs e 18446744073709551615).2.2 256).1 ≤ 256) && toksB _) = true
      rw [decide_eq_true ⟨h3, h4⟩]
      exact g2
    · have e1 : ∀ x : Mg, numsC x 106 = x.seed :: x.most :: (x.pr.length : Int) :: x.pr := fun _ => rfl
      rw [e1, encsZ_cons, encsZ_cons, encsZ_cons, List.append_assoc, List.append_assoc, List.append_assoc]
      refine i2.trans ?_
      conv => lhs; rw [h2, g3]
      rfl
  · obtain ⟨g1, g2, g3⟩ := listF_ok hz h
    refine ⟨g1, g2, ?_, rfl⟩
    have e1 : ∀ x : Mg, numsC x 108 = (x.li.length : Int) :: x.li := fun _ => rfl
    rw [e1, encsZ_cons, List.append_assoc]
    exact g3
theorem field_bytes {m : Mg} {zs : List Int} (e : Int) {c : Int} (hc : Letter c) (hz : IsBytes zs) (hf : Fits m) : IsBytes (fieldF m zs e c).2.1 ∧ (fieldF m zs e c).2.1.length ≤ zs.length ∧ Fits (fieldF m zs e c).1 := by
  have hn := numF_bd hz e (most := 18446744073709551615) (by omega)
  rcases hc with rfl | rfl | rfl | rfl | rfl | rfl | rfl | rfl | rfl
  · exact ⟨hn.2.1, hn.2.2, ⟨hn.1, hf.se, hf.ate, hf.inc, hf.n, hf.cnt, hf.seed⟩⟩
  · exact ⟨hn.2.1, hn.2.2, ⟨hf.st, hn.1, hf.ate, hf.inc, hf.n, hf.cnt, hf.seed⟩⟩
  · exact ⟨hn.2.1, hn.2.2, ⟨hf.st, hf.se, hn.1, hf.inc, hf.n, hf.cnt, hf.seed⟩⟩
  · exact ⟨hn.2.1, hn.2.2, ⟨hf.st, hf.se, hf.ate, hn.1, hf.n, hf.cnt, hf.seed⟩⟩
  · exact ⟨hn.2.1, hn.2.2, ⟨hf.st, hf.se, hf.ate, hf.inc, hn.1, hf.cnt, hf.seed⟩⟩
  · exact ⟨hn.2.1, hn.2.2, ⟨hf.st, hf.se, hf.ate, hf.inc, hf.n, hn.1, hf.seed⟩⟩
  · have h2 := numF_bd hz e (most := 255) (by omega)
    exact ⟨h2.2.1, h2.2.2, ⟨hf.st, hf.se, hf.ate, hf.inc, hf.n, hf.cnt, hf.seed⟩⟩
  · have h2 := numF_bd hn.2.1 (numF zs e 18446744073709551615).2.2 (most := 256) (by omega)
    have h3 := listF_bytes h2.2.1 (numF (numF zs e 18446744073709551615).2.1 (numF zs e 18446744073709551615).2.2 256).2.2
    exact ⟨h3.1, Nat.le_trans h3.2 (Nat.le_trans h2.2.2 hn.2.2), ⟨hf.st, hf.se, hf.ate, hf.inc, hf.n, hf.cnt, hn.1⟩⟩
  · have h3 := listF_bytes hz e
    exact ⟨h3.1, h3.2, ⟨hf.st, hf.se, hf.ate, hf.inc, hf.n, hf.cnt, hf.seed⟩⟩
theorem fields_fits : ∀ (L : List Int) (m : Mg) (zs : List Int) (e : Int), (∀ c ∈ L, Letter c) → IsBytes zs → Fits m → Fits (fieldsF L m zs e).1
  | [], m, zs, e, _, _, hf => hf
  | c :: L, m, zs, e, h, hz, hf => by
    rw [fieldsF]
    obtain ⟨h1, _, h3⟩ := field_bytes e (h c (by simp)) hz hf
    exact fields_fits L _ _ _ (fun d hd => h d (by simp [hd])) h1 h3
theorem fields_ok : ∀ (L : List Int) (m : Mg) (zs : List Int) (e : Int), (∀ c ∈ L, Letter c) → L.Nodup → IsBytes zs → Fits m → (fieldsF L m zs e).2.2 = 0 →
    e = 0 ∧ (∀ c ∈ L, mayC (fieldsF L m zs e).1 c = true) ∧ zs = encsZ (L.flatMap (numsC (fieldsF L m zs e).1)) ++ (fieldsF L m zs e).2.1 ∧ L.foldl (keepC (fieldsF L m zs e).1) m = (fieldsF L m zs e).1
  | [], m, zs, e, _, _, _, _, h => ⟨h, by simp, by simp [fieldsF, encsZ], rfl⟩
  | c :: L, m, zs, e, hl, hn, hz, hf, h => by
    rw [fieldsF] at h ⊢
    have hc := hl c (by simp)
    obtain ⟨b1, _, b3⟩ := field_bytes e hc hz hf
    rw [List.nodup_cons] at hn
    obtain ⟨h1, h2, h3, h4⟩ := fields_ok L _ _ _ (fun d hd => hl d (by simp [hd])) hn.2 b1 b3 h
    obtain ⟨g1, g2, g3, g4⟩ := field_ok hc hz h1
    generalize fieldsF L (fieldF m zs e c).1 (fieldF m zs e c).2.1 (fieldF m zs e c).2.2 = r at *
    have hfl : fldC r.1 c = fldC (fieldF m zs e c).1 c := by
      have := fld_fold (m := r.1) hc L (fieldF m zs e c).1 fun d hd => ⟨hl d (by simp [hd]), fun e => hn.1 (e ▸ hd)⟩
      rwa [h4] at this
    obtain ⟨s1, s2, s3⟩ := fld_same hc hfl
    refine ⟨g1, ?_, ?_, ?_⟩
    · intro d hd
      rcases List.mem_cons.1 hd with rfl | hd
      · rw [s2]; exact g2
      · exact h2 d hd
    · rw [List.flatMap_cons, encsZ_append, List.append_assoc, ← h3, s1]
      exact g3
    · rw [List.foldl_cons, s3, g4, h4]
theorem lettersF_nodup (k : Int) : (lettersF k).Nodup := by
  rcases kind_cases k with h1 | h1 | rfl | rfl | rfl | rfl | rfl | rfl | rfl | rfl | rfl | rfl | rfl | rfl
  · rw [lettersF_none (.inl h1)]; simp
  · rw [lettersF_none (.inr h1)]; simp
  all_goals decide
theorem keep_kind {m : Mg} : ∀ (L : List Int) (x : Mg), (∀ c ∈ L, Letter c) → (L.foldl (keepC m) x).kind = x.kind
  | [], x, _ => rfl
  | c :: L, x, h => by
    rw [List.foldl_cons, keep_kind L _ fun d hd => h d (by simp [hd])]
    rcases h c (by simp) with rfl | rfl | rfl | rfl | rfl | rfl | rfl | rfl | rfl <;> rfl

/-- The bounds that a message has whose fields that count may be, and whose others are 0. -/
theorem may_of {m : Mg} (hk : 1 ≤ m.kind ∧ m.kind ≤ 12) (h1 : ∀ c ∈ lettersF m.kind, mayC m c = true) (h2 : (lettersF m.kind).foldl (keepC m) (zeroM m.kind) = m) : mayA m = true := by
  have h3 : ∀ c, Letter c → c ∉ lettersF m.kind → fldC m c = (0, 0, []) := fun c hc hn => by
    have h4 := fld_fold (m := m) hc (lettersF m.kind) (zeroM m.kind) fun d hd => ⟨lettersF_ok _ d hd, fun e => hn (e ▸ hd)⟩
    rw [h2] at h4
    rw [h4]
    rcases hc with rfl | rfl | rfl | rfl | rfl | rfl | rfl | rfl | rfl <;> rfl
  have hw : 0 ≤ m.why ∧ m.why ≤ 255 := by
    by_cases hm : (119 : Int) ∈ lettersF m.kind
    · have := h1 _ hm; unfold mayC at this; simpa using this
    · have := h3 119 (by unfold Letter; simp) hm; simp [fldC] at this; omega
  have hj : (0 ≤ m.most ∧ m.most ≤ 256) ∧ toksB m.pr = true := by
    by_cases hm : (106 : Int) ∈ lettersF m.kind
    · have := h1 _ hm; unfold mayC at this; simpa using this
    · have := h3 106 (by unfold Letter; simp) hm; simp [fldC] at this; rw [this.2.2]; exact ⟨by omega, rfl⟩
  have hl : toksB m.li = true := by
    by_cases hm : (108 : Int) ∈ lettersF m.kind
    · have := h1 _ hm; unfold mayC at this; simpa using this
    · have := h3 108 (by unfold Letter; simp) hm; simp [fldC] at this; rw [this]; rfl
  rw [may_eq]
  unfold mayR
  rw [decide_eq_true ⟨hk, hw, hj.1, hj.2, hl⟩, (sameB_iff _ _).2 h2]
  rfl

theorem read_fits {zs : List Int} (hz : IsBytes zs) : Fits (readF zs).1 := by
  unfold readF
  split
  · exact zeroM_fits 0
  · split
    · exact zeroM_fits 0
    · unfold fieldsOfF
      have hb : IsBytes (kindF zs).2.1 := by
        have := (numF_bd hz 0 (most := 18446744073709551615) (by omega)).2.1
        unfold kindF
        split
        · exact this
        · split <;> exact this
      exact fields_fits _ _ _ _ (lettersF_ok _) hb (zeroM_fits _)
theorem read_ok {zs : List Int} (hz : IsBytes zs) (h : (readF zs).2 = 0) : mayA (readF zs).1 = true ∧ loadF (readF zs).1 = zs := by
  by_cases h1 : (fieldsOfF zs).2.2 = 0
  · by_cases h2 : (fieldsOfF zs).2.1 = []
    · have hr : readF zs = ((fieldsOfF zs).1, 0) := by unfold readF; simp [h1, h2]
      rw [hr]
      simp only
      have hb := (numF_bd hz 0 (most := 18446744073709551615) (by omega)).2.1
      by_cases hn : (numF zs 0 18446744073709551615).2.2 = 0
      · obtain ⟨_, n2, n3, n4⟩ := numF_ok hz hn
        by_cases hk : (numF zs 0 18446744073709551615).1 < 1 ∨ 12 < (numF zs 0 18446744073709551615).1
        · exfalso
          have hkf : kindF zs = (0, (numF zs 0 18446744073709551615).2.1, 11) := by unfold kindF; simp [hn, hk]
          unfold fieldsOfF at h1
          rw [hkf] at h1
          simp [lettersF, fieldsF] at h1
        · have hkf : kindF zs = numF zs 0 18446744073709551615 := by unfold kindF; simp only [hn]; simp [hk]
          unfold fieldsOfF at h1 h2 ⊢
          rw [hkf] at h1 h2 ⊢
          rw [hn] at h1 h2 ⊢
          generalize numF zs 0 18446744073709551615 = r at *
          obtain ⟨k, zs1, e1⟩ := r
          simp only at *
          obtain ⟨g1, g2, g3, g4⟩ := fields_ok (lettersF k) (zeroM k) zs1 0 (lettersF_ok k) (lettersF_nodup k) hb (zeroM_fits k) h1
          rw [h2, List.append_nil] at g3
          generalize (fieldsF (lettersF k) (zeroM k) zs1 0).1 = M at *
          have hMk : M.kind = k := by
            have := keep_kind (m := M) (lettersF k) (zeroM k) (lettersF_ok k)
            rw [g4] at this
            exact this
          subst hMk
          refine ⟨may_of (by omega) g2 g4, ?_⟩
          unfold loadF loadN
          rw [encsZ_cons, ← g3, ← n2]
      · exfalso
        have hkf : kindF zs = (0, (numF zs 0 18446744073709551615).2) := by unfold kindF; simp [hn]
        unfold fieldsOfF at h1
        rw [hkf] at h1
        simp [lettersF, fieldsF] at h1
        exact hn h1
    · exfalso
      have hr : readF zs = (zeroM 0, 3) := by unfold readF; simp [h1, h2]
      rw [hr] at h
      simp at h
  · exfalso
    have hr : readF zs = (zeroM 0, (fieldsOfF zs).2.2) := by unfold readF; simp [h1]
    rw [hr] at h
    exact h1 h
theorem read_bad {zs : List Int} (h : (readF zs).2 ≠ 0) : (readF zs).1 = zeroM 0 := by
  unfold readF at h ⊢
  split
  · rfl
  · split
    · rfl
    · rename_i h1 h2
      simp [h1, h2] at h

end Go.Proofs.Ytlcfjhlchpeedaa
