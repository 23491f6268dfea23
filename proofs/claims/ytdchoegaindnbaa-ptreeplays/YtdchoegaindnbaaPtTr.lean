/-
  A tree in memory (TrAt); New, Len, Has; a range over those.
-/
import Derived.Test.YtdchoegaindnbaaPtThose
namespace Go.Proofs.Ytdchoegaindnbaa
open Go.RowKit Go.Maps Go.Shelf
set_option linter.unusedVariables false
set_option maxRecDepth 1000000

/-- The tree in block B: its marks L. -/
structure TrAt (W : World) (B room size M : Nat) (time : Int) (L : List Mk) : Prop where
  obj : TrB W B room size M time
  map : PmAt W M L
  mks : ∀ m ∈ L, MkB W m
  rm : 1 ≤ room ∧ room ≤ 4096
  sz : 1 ≤ size ∧ size ≤ 16
  tm : 0 ≤ time ∧ time ≤ 1000000
  old : ∀ m ∈ L, m.used ≤ time
  short : ∀ m ∈ L, m.toks.length ≤ room * size
  len : L.length ≤ room
/-- What a tree's calls turn. -/
def trF (B M : Nat) (L : List Mk) (k : Nat) : Prop := k = B ∨ k = M ∨ ∃ m ∈ L, m.blk = k
theorem TrAt.lts {W : World} {B room size M : Nat} {time : Int} {L : List Mk} (h : TrAt W B room size M time L) {k : Nat} (hk : trF B M L k) : k < W.heap.size := by
  rcases hk with rfl | rfl | ⟨m, hm, rfl⟩
  · exact h.obj.lt
  · exact h.map.lt
  · exact (h.mks m hm).lt
theorem TrAt.same {W W' : World} {B room size M : Nat} {time : Int} {L : List Mk} (h : TrAt W B room size M time L) (hb : ∀ k, trF B M L k → W'.heap[k]? = W.heap[k]?) : TrAt W' B room size M time L :=
  ⟨h.obj.same (hb _ (.inl rfl)), h.map.same (hb _ (.inr (.inl rfl))), fun m hm => (h.mks m hm).same (hb _ (.inr (.inr ⟨m, hm, rfl⟩))), h.rm, h.sz, h.tm, h.old, h.short, h.len⟩
theorem TrAt.fb {F : Nat → Prop} {W W' : World} {B room size M : Nat} {time : Int} {L : List Mk} (h : TrAt W B room size M time L) (hb : Fb F W W') (hF : ∀ k, trF B M L k → ¬ F k) : TrAt W' B room size M time L :=
  h.same fun k hk => hb.block k (h.lts hk) (hF k hk)
theorem TrAt.below {W W' : World} {B room size M : Nat} {time : Int} {L : List Mk} (h : TrAt W B room size M time L) (hb : Below W.heap.size W W') : TrAt W' B room size M time L :=
  h.same fun k hk => hb.block k (h.lts hk)
theorem TrAt.bm {W : World} {B room size M : Nat} {time : Int} {L : List Mk} (h : TrAt W B room size M time L) : B ≠ M := fun e => by
  obtain ⟨es, clock, hm⟩ := h.map.blk
  rw [← e, show W.heap[B]? = _ from h.obj] at hm
  cases hm
theorem TrAt.mm {W : World} {B room size M : Nat} {time : Int} {L : List Mk} (h : TrAt W B room size M time L) {m : Mk} (hm : MkB W m) : m.blk ≠ M := fun e => by
  obtain ⟨es, clock, h2⟩ := h.map.blk
  rw [← e, show W.heap[m.blk]? = _ from hm] at h2
  cases h2
theorem TrAt.mb {W : World} {B room size M : Nat} {time : Int} {L : List Mk} (h : TrAt W B room size M time L) {m : Mk} (hm : MkB W m) : m.blk ≠ B := fun e => by
  have h2 : W.heap[B]? = _ := h.obj
  rw [← e, show W.heap[m.blk]? = _ from hm] at h2
  simp at h2
theorem TrAt.perm {W : World} {B room size M : Nat} {time : Int} {L L' : List Mk} (h : TrAt W B room size M time L) (hp : L.Perm L') : TrAt W B room size M time L' :=
  ⟨h.obj, h.map.perm hp, fun m hm => h.mks m (hp.mem_iff.2 hm), h.rm, h.sz, h.tm, fun m hm => h.old m (hp.mem_iff.2 hm), fun m hm => h.short m (hp.mem_iff.2 hm), by rw [← hp.length_eq]; exact h.len⟩
/-- No two marks lie in one block. -/
theorem mk_one {W : World} {a b : Mk} (ha : MkB W a) (hb : MkB W b) (e : a.blk = b.blk) : a.nm = b.nm := by
  have h1 : W.heap[a.blk]? = _ := ha
  rw [e, show W.heap[b.blk]? = _ from hb] at h1
  simp at h1
  exact (strN_inj b.bytes a.bytes h1.1).symm
/-- A tree behind a call. -/
def TrO (W : World) (B room size M : Nat) (L : List Mk) (time' : Int) (L' : List Mk) (w' : World) : Prop :=
  TrAt w' B room size M time' L' ∧ Fb (trF B M L) W w' ∧ ∀ m ∈ L', (∃ x ∈ L, x.blk = m.blk) ∨ W.heap.size ≤ m.blk
theorem TrAt.stay {W W' : World} {B room size M : Nat} {time : Int} {L : List Mk} (h : TrAt W B room size M time L) (hb : Below W.heap.size W W') : TrO W B room size M L time L W' := ⟨h.below hb, Fb.of hb, fun m hm => .inl ⟨m, hm, rfl⟩⟩
theorem pnew_no (r s : Int) (W : World) (h : r < 1 ∨ 4096 < r ∨ s < 1 ∨ 16 < s) : Calls Try.prog 7 #[.int .i64 r, .int .i64 s] W fun e w' => e = .returned (.tuple #[.pointer none, .int .i64 1]) ∧ w' = W := by
  by_cases h1 : r < 1
  · clear h
    go_enter Try.func7, Try.ntmps7
    go_wp2
    go_ret2
    exact ⟨rfl, rfl⟩
  by_cases h2 : 4096 < r
  · clear h
    go_enter Try.func7, Try.ntmps7
    go_wp2
    go_ret2
    exact ⟨rfl, rfl⟩
  by_cases h3 : s < 1
  · clear h
    go_enter Try.func7, Try.ntmps7
    go_wp2
    go_ret2
    exact ⟨rfl, rfl⟩
  have h4 : 16 < s := by omega
  clear h
  go_enter Try.func7, Try.ntmps7
  go_wp2
  go_ret2
  exact ⟨rfl, rfl⟩
theorem pnew_yes (r s : Nat) (W : World) (hr : 1 ≤ r ∧ r ≤ 4096) (hs : 1 ≤ s ∧ s ≤ 16) : Calls Try.prog 7 #[.int .i64 r, .int .i64 s] W fun e w' => e = .returned (.tuple #[.pointer (some ⟨W.heap.size + 1, 0, none⟩), .int .i64 0]) ∧ Hid (TrAt w' (W.heap.size + 1) r s W.heap.size 0 [] ∧ Below W.heap.size W w') := by
  have h1 : ¬ (r : Int) < 1 := by omega
  have h2 : ¬ (4096 : Int) < (r : Int) := by omega
  have h3 : ¬ (s : Int) < 1 := by omega
  have h4 : ¬ (16 : Int) < (s : Int) := by omega
  have k1 : r < 4097 := by omega
  have k2 : ¬ 4096 < r := by omega
  have k3 : ¬ r = 0 := by omega
  have k4 : s < 17 := by omega
  have k5 : ¬ 16 < s := by omega
  have k6 : ¬ s = 0 := by omega
  have hm := @run_makeMap Try.prog
  have HX : Hid (TrAt ((W.alloc (.map #[] 0)).alloc (.cells #[.int .i64 r, .int .i64 s, .map (some W.heap.size), .int .u64 0] 52)) (W.heap.size + 1) r s W.heap.size 0 [] ∧ Below W.heap.size W ((W.alloc (.map #[] 0)).alloc (.cells #[.int .i64 r, .int .i64 s, .map (some W.heap.size), .int .u64 0] 52))) := by
    refine ⟨⟨?_, (PmAt.new W).below ((Below.refl _ _).alloc (Nat.le_refl _) _), by simp, hr, hs, by omega, by simp, by simp, by simp⟩, ((Below.refl _ _).alloc (Nat.le_refl _) _).alloc (by simp) _⟩
    have := heap_alloc_new (W.alloc (.map #[] 0)) (.cells #[.int .i64 r, .int .i64 s, .map (some W.heap.size), .int .u64 0] 52)
    rwa [World.size_alloc] at this
  go_enter Try.func7, Try.ntmps7
  go_wp2
  go_ret2
  exact ⟨rfl, HX⟩
theorem plen_any {W : World} {B room size M : Nat} {time : Int} {L : List Mk} (h : TrAt W B room size M time L) : Calls Try.prog 18 #[.pointer (some ⟨B, 0, none⟩)] W fun e w' => e = .returned (.int .i64 L.length) ∧ w' = W := by
  have hM := made_yes h.obj h.rm.1
  have c2 := h.obj.cells.2.2.1
  have hl := fun ty => h.map.len ty
  clear h
  go_enter Try.func18, Try.ntmps18
  go_wp2_with fail
  refine hM.mono ?_
  rintro r w1 ⟨rfl, rfl⟩
  go_wp2_with fail
  go_ret
  exact ⟨rfl, rfl⟩
/-- Is the mark there? -/
def hasM (L : List Mk) (x : Int) (ts : List Int) : Bool := (look L (nmZ x ts)).isSome
theorem hasM_iff {L : List Mk} (hok : ∀ m ∈ L, m.ok) {x : Int} {ts : List Int} (hx : isU x) (ht : isIs ts) : hasM L x ts = true ↔ ∃ m ∈ L, m.rep = x ∧ m.toks = ts := by
  unfold hasM
  constructor
  · intro h
    obtain ⟨b, hb⟩ := Option.isSome_iff_exists.1 h
    obtain ⟨m, h1, h2, h3⟩ := look_some hb
    exact ⟨m, h1, nmZ_inj (hok m h1).1 hx (hok m h1).2.1 ht h2⟩
  · rintro ⟨m, h1, rfl, rfl⟩
    cases hl : look L (nmZ m.rep m.toks) with
    | none => exact absurd rfl (look_none.1 hl m h1)
    | some b => rfl
set_option maxHeartbeats 2000000 in
theorem phas_any {W : World} {B room size M : Nat} {time : Int} {L : List Mk} (h : TrAt W B room size M time L) {a : Option Addr} {len cap : Nat} {ts : List Int} {x : Int} (hr : Reads .i64 W a len cap ts) (hi : isIs ts) (hl : len ≤ 1000) (hx : isU x) :
    Calls Try.prog 19 #[.pointer (some ⟨B, 0, none⟩), .slice a len cap, .int .u64 x] W fun e w' => e = .returned (.bool (hasM L x ts)) ∧ Hid (Below W.heap.size W w') := by
  have hM := made_yes h.obj h.rm.1
  have HLo := hid (longest_any h.obj h.rm.2 h.sz.2)
  by_cases hlong : len ≤ room * size
  · have g1 : ¬ (((room * size : Nat) : Int) < (len : Int)) := by omega
    have HN := hid fun (w : World) (hb : Below W.heap.size W w) => name_of (hr.below hb) hi hl hx
    have HK := hid fun (w : World) (hb : Below W.heap.size W w) => (h.below hb)
    have HZ : Hid ((nmZ x ts).length ≤ 1000000) := by
      have := nmZ_len hx hi
      have := hr.size
      unfold Hid
      omega
    have HLk := hid fun (w : World) (hb : Below W.heap.size W w) => (h.below hb).map.look_at (nmZ_bytes x ts) HZ.out
    obtain ⟨o, Ho⟩ : ∃ o, Hid (look L (nmZ x ts) = o) := ⟨_, rfl⟩
    have HR : Hid (hasM L x ts = o.isSome) := by unfold Hid hasM; rw [Ho.out]
    rw [HR.out]
    rw [Ho.out] at HLk
    clear h hr
    generalize room * size = q at *
    generalize strOfNums (nmZ x ts) = s at *
    go_enter Try.func19, Try.ntmps19
    go_wp2_with fail
    refine hM.mono ?_
    rintro r w1 ⟨rfl, rfl⟩
    go_wp2_with fail
    refine HLo.out.mono ?_
    rintro r w2 ⟨rfl, H2⟩
    have HV : Hid (Below w1.heap.size w1 w2.drew) := H2.out.drew
    have HC0 := hid (HK.out _ H2.out).obj.cells.2.2.1
    have HC1 := hid (HK.out _ HV.out).obj.cells.2.2.1
    go_wp2_with fail
    go_region_held3 (fun W' : World => W'.cell? ⟨B, 2, none⟩ = some (.map (some M))) (first | (with_reducible exact HC0.out) | (with_reducible exact HC1.out) | (with_reducible exact HC2.out))
      (first | (go_at_call 35; (with_reducible refine (HN.out _ HV.out).mono ?_); rintro r w3 ⟨rfl, H3⟩; have HV3 := hid (HV.out.trans (H3.out.mono HV.out.size)); have HC2 := hid (HK.out _ HV3.out).obj.cells.2.2.1; have hlk := HLk.out _ HV3.out; clear H3) | fail)
    all_goals
      cases o with
      | none =>
        go_wp2
        go_ret
        exact ⟨rfl, HV3⟩
      | some b =>
        go_wp2
        go_ret
        exact ⟨rfl, HV3⟩
  · have hf : hasM L x ts = false := by
      rw [← Bool.not_eq_true, hasM_iff h.map.oks hx hi]
      rintro ⟨m, h1, rfl, rfl⟩
      have := h.short m h1
      have := hr.size
      omega
    rw [hf]
    have g1 : (((room * size : Nat) : Int) < (len : Int)) := by omega
    have g2 : room * size < len := by omega
    clear h hr
    generalize room * size = q at *
    go_enter Try.func19, Try.ntmps19
    go_wp2_with fail
    refine hM.mono ?_
    rintro r w1 ⟨rfl, rfl⟩
    go_wp2_with fail
    refine HLo.out.mono ?_
    rintro r w2 ⟨rfl, H2⟩
    go_wp2_with fail
    go_ret
    exact ⟨rfl, H2⟩
end Go.Proofs.Ytdchoegaindnbaa
