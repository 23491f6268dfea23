/-
  useThere: the beginnings that are there are used, the others come back as new marks.
-/
import Derived.Test.YtdchoegaindnbaaPtMat
import Derived.Deep.RegionLaw
namespace Go.Proofs.Ytdchoegaindnbaa
open Go.RowKit Go.Maps Go.Shelf
set_option linter.unusedVariables false
set_option maxRecDepth 1000000

/-- The pointer to a mark. -/
def ptV (m : Mk) : Value := .pointer (some ⟨m.blk, 0, none⟩)
/-- The beginning of j + 1 pieces. -/
def bgT (ts : List Int) (size j : Nat) : List Int := ts.take ((j + 1) * size)
/-- Is it one of the first k beginnings? -/
def usd (x : Int) (ts : List Int) (size k : Nat) (m : Mk) : Bool := decide (m.rep = x) && (List.range k).any fun j => decide (m.toks = bgT ts size j)
/-- The marks, the first k beginnings among them used now. -/
def useK (L : List Mk) (x : Int) (ts : List Int) (size k : Nat) (T : Int) : List Mk := L.map fun m => if usd x ts size k m then m.at T else m
/-- Which of the first k beginnings are not there. -/
def frJ (L : List Mk) (x : Int) (ts : List Int) (size k : Nat) : List Nat := (List.range k).filter fun j => !hasM L x (bgT ts size j)
theorem usd_succ (x : Int) (ts : List Int) (size k : Nat) (m : Mk) : usd x ts size (k + 1) m = (usd x ts size k m || (decide (m.rep = x) && decide (m.toks = bgT ts size k))) := by
  unfold usd
  rw [List.range_succ, List.any_append]
  cases decide (m.rep = x) <;> simp
theorem frJ_succ (L : List Mk) (x : Int) (ts : List Int) (size k : Nat) : frJ L x ts size (k + 1) = frJ L x ts size k ++ (if hasM L x (bgT ts size k) then [] else [k]) := by
  unfold frJ
  rw [List.range_succ, List.filter_append]
  congr 1
  cases h : hasM L x (bgT ts size k) <;> simp [h]
theorem piece_le {ts : List Int} {len size k : Nat} (h : (k + 1) * size ≤ len) (hl : ts.length = len) : (bgT ts size k).length = (k + 1) * size := by unfold bgT; rw [List.length_take]; omega
/-- Which name's length it is. -/
theorem nm_grow (x : Int) (ts : List Int) (p q : Nat) : nmZ x (ts.take (p + q)) = nmZ x (ts.take p) ++ txZ ((ts.drop p).take q) := by
  unfold nmZ
  rw [List.take_add, txZ_app, List.append_assoc]
theorem nm_take (x : Int) (ts : List Int) (p : Nat) : (nmZ x ts).take (nmZ x (ts.take p)).length = nmZ x (ts.take p) := by
  have : nmZ x ts = nmZ x (ts.take p) ++ txZ (ts.drop p) := by
    unfold nmZ
    rw [List.append_assoc, ← txZ_app, List.take_append_drop]
  rw [this, List.take_left]
theorem tx_snoc (ts : List Int) (k : Nat) (h : k < ts.length) : txZ (ts.take (k + 1)) = txZ (ts.take k) ++ encZ (foldZ (ts[k]?.getD 0)) := by
  rw [take_snoc h, txZ_app, txZ_cons, txZ_nil, List.append_nil]
/-- useThere on its way: k beginnings have been gone through. -/
structure UsI (W : World) (B room size M : Nat) (T : Int) (L : List Mk) (x : Int) (ts : List Int) (k : Nat) (v : Value) (Fr : List Mk) (W' : World) : Prop where
  obj : TrB W' B room size M T
  map : PmAt W' M L
  mks : ∀ m ∈ L, MkB W' (if usd x ts size k m then m.at T else m)
  row : W'.ownsRow W.heap.size 57 1 v Fr.length (Fr.map ptV)
  fre : ∀ m ∈ Fr, MkB W' m ∧ W.heap.size ≤ m.blk ∧ m.rep = x ∧ m.used = T
  tks : Fr.map Mk.toks = (frJ L x ts size k).map (bgT ts size)
  fb : Fb (trF B M L) W W'
theorem UsI.below {W : World} {B room size M : Nat} {T : Int} {L : List Mk} {x : Int} {ts : List Int} {k : Nat} {v : Value} {Fr : List Mk} {W' W2 : World} (h : UsI W B room size M T L x ts k v Fr W') (hb : Below W'.heap.size W' W2) : UsI W B room size M T L x ts k v Fr W2 :=
  ⟨h.obj.below hb, h.map.below hb, fun m hm => (h.mks m hm).below hb, own_below h.row hb, fun m hm => ⟨(h.fre m hm).1.below hb, (h.fre m hm).2⟩, h.tks, h.fb.below hb⟩
theorem blk_if (b : Bool) (m : Mk) (T : Int) : (if b then m.at T else m).blk = m.blk := by split <;> rfl
theorem rep_if (b : Bool) (m : Mk) (T : Int) : (if b then m.at T else m).rep = m.rep := by split <;> rfl
theorem toks_if (b : Bool) (m : Mk) (T : Int) : (if b then m.at T else m).toks = m.toks := by split <;> rfl
theorem nm_if (b : Bool) (m : Mk) (T : Int) : (if b then m.at T else m).nm = m.nm := by split <;> rfl
/-- The mark that is there is used. -/
theorem UsI.there {W : World} {B room size M : Nat} {T : Int} {L : List Mk} {x : Int} {ts : List Int} {k : Nat} {v : Value} {Fr : List Mk} {W' : World} (h : UsI W B room size M T L x ts k v Fr W') {m : Mk} (hm : m ∈ L) (h1 : m.rep = x) (h2 : m.toks = bgT ts size k) (hlt : ∀ m ∈ L, m.blk < W.heap.size) :
    UsI W B room size M T L x ts (k + 1) v Fr (W'.setCell ⟨m.blk, 3, none⟩ (.int .u64 T)) ∧ W'.cell? ⟨m.blk, 3, none⟩ = some (.int .u64 (if usd x ts size k m then m.at T else m).used) ∧ W'.frozen? ⟨m.blk, 3, none⟩ = false := by
  have hmk := h.mks m hm
  have hb : ∀ k, k ≠ m.blk → (W'.setCell ⟨m.blk, 3, none⟩ (.int .u64 T)).heap[k]? = W'.heap[k]? := fun k hk => Below.heap_setCell _ _ _ _ hk
  have hc := hmk.cells.2.2.2
  have hf := hmk.frozen 3
  rw [blk_if] at hc hf
  have hmB : m.blk ≠ B := fun e => by
    have h3 : W'.heap[B]? = _ := h.obj
    rw [← e, ← blk_if (usd x ts size k m) m T, show W'.heap[(if usd x ts size k m then m.at T else m).blk]? = _ from hmk] at h3
    simp at h3
  have hmM : m.blk ≠ M := fun e => by
    obtain ⟨es, clock, h3⟩ := h.map.blk
    rw [← e, ← blk_if (usd x ts size k m) m T, show W'.heap[(if usd x ts size k m then m.at T else m).blk]? = _ from hmk] at h3
    cases h3
  have hin : hasM L x (bgT ts size k) = true := by
    unfold hasM
    rw [← h1, ← h2]
    exact Option.isSome_iff_exists.2 ⟨_, look_mem h.map.nodup hm⟩
  refine ⟨⟨h.obj.same (hb _ (fun e => hmB e.symm)), h.map.same (hb _ (fun e => hmM e.symm)), fun y hy => ?_, own_blk h.row fun b hb2 => hb b fun e => ?_, fun y hy => ⟨(h.fre y hy).1.same (hb _ fun e => ?_), (h.fre y hy).2⟩, ?_, h.fb.trans (Fb.set (F := trF B M L) (.inr (.inr ⟨m, hm, rfl⟩)) _) fun k hk => .inl hk⟩, hc, hf⟩
  · by_cases e : y = m
    · subst e
      have hu : usd x ts size (k + 1) y = true := by rw [usd_succ]; simp [h1, h2]
      rw [hu, if_pos rfl]
      have := hmk.use T
      rw [blk_if, rep_if, toks_if] at this
      exact this
    · have hu : usd x ts size (k + 1) y = usd x ts size k y := by
        rw [usd_succ]
        cases hr : (decide (y.rep = x) && decide (y.toks = bgT ts size k)) with
        | false => simp
        | true =>
          simp at hr
          exact absurd (nm_one h.map.nodup hy hm (by unfold Mk.nm; rw [hr.1, hr.2, h1, h2])) e
      rw [hu]
      refine (h.mks y hy).same (hb _ fun e2 => e ?_)
      rw [blk_if] at e2
      have := mk_one (h.mks y hy) hmk (by rw [blk_if, blk_if]; exact e2)
      rw [nm_if, nm_if] at this
      exact nm_one h.map.nodup hy hm this
  · rcases id h.row.2 with ⟨hv, _⟩ | ⟨g', cap', cur, hv, hB, hg, _⟩
    · rw [hv] at hb2; cases hb2
    · rw [hv] at hb2
      obtain rfl : g' = b := by simpa [Value.ownBlock] using hb2
      have := hlt m hm
      omega
  · have := (h.fre y hy).2.1
    have := hlt m hm
    omega
  · rw [frJ_succ, hin]
    simp [h.tks]
/-- A new mark is laid. -/
theorem UsI.fresh {W : World} {B room size M : Nat} {T : Int} {L : List Mk} {x : Int} {ts : List Int} {k : Nat} {v : Value} {Fr : List Mk} {W' W2 : World} {v2 : Value} (h : UsI W B room size M T L x ts k v Fr W') (hno : hasM L x (bgT ts size k) = false) {m : Mk} (hm : MkB W2 m) (hb : W.heap.size ≤ m.blk) (h1 : m.rep = x) (h2 : m.toks = bgT ts size k) (h3 : m.used = T)
    (hrow : W2.ownsRow W.heap.size 57 1 v2 (Fr.length + 1) (Fr.map ptV ++ [ptV m])) (hgr : ∀ j, j < W'.heap.size → v.ownBlock ≠ some j → W2.heap[j]? = W'.heap[j]?) (hsz : W'.heap.size ≤ W2.heap.size) (hos : W2.os = W'.os ∧ W2.tape = W'.tape ∧ W2.output = W'.output) (hlt : trF B M L = trF B M L ∧ ∀ j, trF B M L j → j < W.heap.size) :
    UsI W B room size M T L x ts (k + 1) v2 (Fr ++ [m]) W2 := by
  have hvb : ∀ (j : Nat) (o : Obj), W'.heap[j]? = some o → (∀ cur, o ≠ Obj.cells cur 57 (0, 0)) → W2.heap[j]? = W'.heap[j]? := fun j o ho hne => hgr j (lt_of_block ho) fun e => by
    rcases id h.row.2 with ⟨hv, _⟩ | ⟨g', cap', cur, hv, hB, hg, _⟩
    · rw [hv] at e; cases e
    · rw [hv] at e
      obtain rfl : g' = j := by simpa [Value.ownBlock] using e
      rw [hg] at ho
      exact hne cur (by injection ho with h; exact h.symm)
  have hvW : ∀ j, v.ownBlock = some j → W.heap.size ≤ j := fun j e => by
    rcases id h.row.2 with ⟨hv, _⟩ | ⟨g', cap', cur, hv, hB, hg, _⟩
    · rw [hv] at e; cases e
    · rw [hv] at e
      obtain rfl : g' = j := by simpa [Value.ownBlock] using e
      exact hB
  refine ⟨h.obj.same (hvb _ _ h.obj (fun cur e => by simp at e)), h.map.same ?_, fun y hy => ?_, ?_, fun y hy => ?_, ?_, ?_⟩
  · obtain ⟨es, clock, hM⟩ := h.map.blk
    exact hvb _ _ hM (fun cur e => by cases e)
  · have hu : usd x ts size (k + 1) y = usd x ts size k y := by
      rw [usd_succ]
      cases hr : (decide (y.rep = x) && decide (y.toks = bgT ts size k)) with
      | false => simp
      | true =>
        simp at hr
        unfold hasM at hno
        rw [← hr.1, ← hr.2, show nmZ y.rep y.toks = y.nm from rfl, look_mem h.map.nodup hy] at hno
        cases hno
    rw [hu]
    exact (h.mks y hy).same (hvb _ _ (h.mks y hy) (fun cur e => by simp at e))
  · rw [List.length_append, List.map_append]
    exact hrow
  · rcases List.mem_append.1 hy with hy | hy
    · exact ⟨(h.fre y hy).1.same (hvb _ _ (h.fre y hy).1 (fun cur e => by simp at e)), (h.fre y hy).2⟩
    · simp at hy
      subst hy
      exact ⟨hm, hb, h1, h3⟩
  · rw [frJ_succ, hno]
    simp [h.tks, h2]
  · refine ⟨hos.1.trans h.fb.os, hos.2.1.trans h.fb.tape, hos.2.2.trans h.fb.output, Nat.le_trans h.fb.size hsz, fun j hj hn => (hgr j (Nat.lt_of_lt_of_le hj h.fb.size) fun e => ?_).trans (h.fb.block j hj hn)⟩
    have := hvW j e
    omega
end Go.Proofs.Ytdchoegaindnbaa
