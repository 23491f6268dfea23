/-
  those: the marks of a kind come, in some order, each once.
-/
import Derived.Test.YtdchoegaindnbaaPtRf
import Derived.Test.YtdchoegaindnbaaPtMk
namespace Go.Proofs.Ytdchoegaindnbaa
open Go.RowKit Go.Maps Go.Shelf
set_option linter.unusedVariables false
set_option maxRecDepth 1000000

theorem atKey_has {D : DataW Unit} {k : Lit} (h : Maps.has D k = true) (z z' : DataW Unit) : D.atKey k z = D.atKey k z' := by
  cases D <;> try (cases h; done)
  rename_i es
  obtain ⟨p, hp, hpk⟩ := List.any_eq_true.1 h
  have hs : (es.find? (fun p => p.1.sameKey k)).isSome = true := List.find?_isSome.2 ⟨p, hp, hpk⟩
  obtain ⟨x, hx⟩ := Option.isSome_iff_exists.1 hs
  simp [DataW.atKey, hx]
/-- A string as bytes. -/
theorem str_kz (s : ByteArray) : ∃ zs, IsBytes zs ∧ s = strOfNums zs := by
  refine ⟨s.data.toList.map fun x => (x.toNat : Int), fun x hx => ?_, ?_⟩
  · obtain ⟨y, _, rfl⟩ := List.mem_map.1 hx
    have := y.toNat_lt
    omega
  · apply ByteArray.ext
    apply Array.toList_inj.1
    rw [strOfNums_data, List.map_map]
    have : ((fun n : Int => UInt8.ofNat n.toNat) ∘ fun x : UInt8 => (x.toNat : Int)) = id := by
      funext x
      simp
    rw [this, List.map_id]
/-- What has come: the marks of the kind that are no longer to come, none twice; what is to come stands in the map as it stood. -/
def Cm (L : List Mk) (p : Mk → Bool) (D : DataW Unit) (left : Lit → Bool) (ss : List Mk) : Prop :=
  ss.Nodup ∧ (∀ m, m ∈ ss ↔ (m ∈ L ∧ p m = true ∧ left (kz m.nm) = false)) ∧ ∀ zs, IsBytes zs → left (kz zs) = true → ∃ m ∈ L, m.nm = zs ∧ ∀ zd, D.atKey (kz zs) zd = .lit (.int .i64 (codeP (some m.blk)))
theorem Cm.start {L : List Mk} (hP : (L.map Mk.nm).Nodup) {D : DataW Unit} (p : Mk → Bool) (h : ∀ zs, IsBytes zs → D.atKey (kz zs) (.lit (.int .i64 (-1))) = .lit (.int .i64 (codeP (look L zs))) ∧ Maps.has D (kz zs) = (look L zs).isSome) : Cm L p D (Maps.has D) [] := by
  refine ⟨List.nodup_nil, fun m => ?_, fun zs hz hl => ?_⟩
  · constructor
    · intro hm; simp at hm
    · rintro ⟨h1, _, h3⟩
      rw [(h m.nm m.bytes).2, look_mem hP h1] at h3
      cases h3
  · have hl' := hl
    rw [(h zs hz).2] at hl
    cases hlk : look L zs with
    | none => rw [hlk] at hl; cases hl
    | some b =>
      obtain ⟨m, h1, h2, h3⟩ := look_some hlk
      refine ⟨m, h1, h2, fun zd => ?_⟩
      have h4 := (h zs hz).1
      rw [hlk] at h4
      rw [h3, ← h4]
      exact atKey_has hl' _ _
/-- A mark is passed by. -/
theorem Cm.skip {L : List Mk} {p : Mk → Bool} {D : DataW Unit} {left : Lit → Bool} {ss : List Mk} (hn : (L.map Mk.nm).Nodup) (h : Cm L p D left ss) {m : Mk} (hm : m ∈ L) (hp : p m = false) (hl : left (kz m.nm) = true) : Cm L p D (fun z => left z && !z.sameKey (kz m.nm)) ss := by
  refine ⟨h.1, fun x => ?_, fun zs hz hz2 => h.2.2 zs hz (by simp at hz2; exact hz2.1)⟩
  rw [h.2.1 x]
  constructor
  · rintro ⟨h1, h2, h3⟩
    exact ⟨h1, h2, by simp [h3]⟩
  · rintro ⟨h1, h2, h3⟩
    refine ⟨h1, h2, ?_⟩
    cases hx : left (kz x.nm) with
    | false => rfl
    | true =>
      simp only at h3
      rw [hx] at h3
      have h4 : (kz x.nm).sameKey (kz m.nm) = true := by simpa using h3
      have h5 := kz_inj x.bytes m.bytes (WideAt.sameKey_eq h4)
      rw [nm_one hn h1 hm h5, hp] at h2
      cases h2
/-- A mark has come. -/
theorem Cm.step {L : List Mk} {p : Mk → Bool} {D D' : DataW Unit} {left : Lit → Bool} {ss : List Mk} (hn : (L.map Mk.nm).Nodup) (h : Cm L p D left ss) {m : Mk} (hm : m ∈ L) (hp : p m = true) (hl : left (kz m.nm) = true) (hs : (kz m.nm).sameKey (kz m.nm) = true)
    (hD : ∀ kl, (left kl && !kl.sameKey (kz m.nm)) = true → ∀ zd, D'.atKey kl zd = D.atKey kl zd) : Cm L p D' (fun z => left z && !z.sameKey (kz m.nm)) (ss ++ [m]) := by
  have hnew : m ∉ ss := fun hi => by have := ((h.2.1 m).1 hi).2.2; rw [hl] at this; cases this
  refine ⟨List.nodup_append.2 ⟨h.1, by simp, fun a ha b hb => by simp at hb; subst hb; exact fun e => hnew (e ▸ ha)⟩, fun x => ?_, fun zs hz hz2 => ?_⟩
  · rw [List.mem_append, h.2.1 x]
    constructor
    · rintro (⟨h1, h2, h3⟩ | h1)
      · exact ⟨h1, h2, by simp [h3]⟩
      · simp at h1
        subst h1
        exact ⟨hm, hp, by simp [hs]⟩
    · rintro ⟨h1, h2, h3⟩
      cases hx : left (kz x.nm) with
      | false => exact .inl ⟨h1, h2, rfl⟩
      | true =>
        simp only at h3
        rw [hx] at h3
        have h4 : (kz x.nm).sameKey (kz m.nm) = true := by simpa using h3
        have h5 := kz_inj x.bytes m.bytes (WideAt.sameKey_eq h4)
        exact .inr (by simp [nm_one hn h1 hm h5])
  · obtain ⟨x, h1, h2, h3⟩ := h.2.2 zs hz (by simp at hz2; exact hz2.1)
    exact ⟨x, h1, h2, fun zd => (hD _ hz2 zd).trans (h3 zd)⟩
theorem Cm.done {L : List Mk} {p : Mk → Bool} {D : DataW Unit} {left : Lit → Bool} {ss : List Mk} (hn : (L.map Mk.nm).Nodup) (h : Cm L p D left ss) (hl : ∀ kl, left kl = false) : ss.Perm (L.filter p) := by
  have hL : L.Nodup := hn.of_map _ fun a b hab e => hab (by rw [e])
  refine (List.perm_ext_iff_of_nodup h.1 (hL.filter _)).2 fun x => ?_
  rw [h.2.1 x, List.mem_filter]
  constructor
  · rintro ⟨h1, h2, _⟩; exact ⟨h1, h2⟩
  · rintro ⟨h1, h2⟩; exact ⟨h1, h2, hl _⟩
set_option maxHeartbeats 4000000 in
theorem those1 (n l Bt Bi B room size M : Nat) (time : Int) (fi : Nat) (caps : Array Value) (p : Mk → Bool) (L : List Mk) (J : List Mk → World → Prop) (hn : 2 ≤ n)
    (hent : ∀ args w, (callFunc fi args).run Try.prog w = .ok (.enter fi args) w)
    (hbox : ∀ pre W, J pre W → W.cell? ⟨Bi, 0, none⟩ = some (.func (.func fi) #[] caps))
    (his : ∀ pre W, J pre W → ∀ m ∈ L, m ∉ pre → Calls Try.prog fi (#[.pointer (some ⟨m.blk, 0, none⟩)] ++ caps) W fun e w' => e = .returned (.bool (p m)) ∧ ∃ q, w' = W.drewN q)
    (hY : ∀ pre x W, J pre W → (x ∈ L ∧ p x = true ∧ x ∉ pre) → YieldAt Fence.wide (n - 1) Try.prog l #[.pointer (some ⟨x.blk, 0, none⟩)] W fun e W' => e = .returned (.bool true) ∧ J (pre ++ [x]) W' ∧ Kx M x W W')
    (W : World) (hJ : AbidesFrom W.heap.size J) (hBt : W.cell? ⟨Bt, 0, none⟩ = some (.pointer (some ⟨B, 0, none⟩))) (hT : TrB W B room size M time) (hP : PmAt W M L) (h0 : J [] W) :
    CallsIn Fence.wide n Try.prog 40 #[.func (.yield l) #[] #[], .pointer (some ⟨Bt, 0, none⟩), .pointer (some ⟨Bi, 0, none⟩)] W fun e W' => (∃ v, e = .returned v) ∧ ∃ ss : List Mk, ss.Perm (L.filter p) ∧ J ss W' := by
  obtain ⟨D0, hown, hD0, hsz, hnd, hok⟩ := hP
  have c2 := hT.cells.2.2.1
  clear hT
  refine callsIn_of_wp Try.func40 rfl trivial ?_ rfl
  simp only [Try.ntmps40, List.size_toArray, List.length_cons, List.length_nil, Nat.reduceAdd, Nat.reduceSub, Array.replicate_succ, Array.replicate_zero, List.push_toArray, List.append_toArray, List.nil_append, List.cons_append]
  gi_wp2_with (first
    | (gi_at_range; refine wpListIn_range_own _ rfl _ 50 rfl 9 57 slaw Try.underlying50 _ M L.length _ rfl hown ?_; intro w0 hrg0 hg0 hs0)
    | gi_in)
  go_frame
  gi_loopw [5] (fun _ wr => ∃ (left : Lit → Bool) (cnt : Nat) (D : DataW Unit) (ss : List Mk), wr.ranges Try.prog 9 Rp M W.heap.size L.length D left cnt ∧ Cm L p D left ss ∧ J ss wr)
    (fun _ wr => wr.rangeLeft M W.heap.size)
  case atStart =>
    exact ⟨_, _, _, [], hrg0, Cm.start hnd p hD0, hJ [] W w0 none h0 hg0 (fun r e => by cases e)⟩
  case round =>
    obtain ⟨left, cnt, D, ss, hrg, hC, hJs⟩ := hrel
    gi_wp2_with (first
      | (gi_at_next; refine wpListIn_next_ranges _ rfl _ rfl 9 slaw Rp Value.string id (fun key kl hk => Maps.keyOf_string_inv Try.underlying9 hk) (fun v _ _ => ⟨v, rfl⟩) M W.heap.size L.length _ _ _ rfl hrg ?_ ?_)
      | gi_in)
    · intro hc0 hl0
      gi_wp2
      go_end0
      exact ⟨⟨_, rfl⟩, ss, hC.done hnd hl0, hJs⟩
    · intro s c kl yd yp w2 cnt2 hkey hlk hv hat hrg2 hlt hg2 hs2 hen
      obtain ⟨s', es, rfl, _⟩ := WideMaps.string_of_keyOf Try.underlying9 hkey
      obtain rfl : s = s' := by simpa using es
      obtain ⟨zs, hz, rfl⟩ := str_kz s
      change left (kz zs) = true at hlk
      obtain ⟨m, hm, rfl, hmat⟩ := hC.2.2 zs hz hlk
      have hyd : yd = .lit (.int .i64 (codeP (some m.blk))) := (hat .nil).symm.trans (hmat .nil)
      subst hyd
      have hc := Rp_inv (v := id c) hv
      simp only [id] at hc
      subst hc
      have hJ2 : J ss w2 := hJ ss wr w2 (some W.heap.size) hJs hg2 (fun r e => by cases e; exact ⟨Nat.le_refl _, hrg.iter_walk⟩)
      have hnew : m ∉ ss := fun hi => by have := ((hC.2.1 m).1 hi).2.2; rw [hlk] at this; cases this
      have hB := hbox ss w2 hJ2
      have hI : CallsIn Fence.wide (n - 1) Try.prog fi (#[.pointer (some ⟨m.blk, 0, none⟩)] ++ caps) w2 _ := callsIn_wide.2 (his ss w2 hJ2 m hm hnew)
      have hself : (kz m.nm).sameKey (kz m.nm) = true := WideAt.sameKey_self (slaw.key (kz_key (hok m hm).len))
      clear hs2
      change (Instr.entry (.pointer (some ⟨W.heap.size, 0, none⟩))).run Try.prog w2 = .ok (.tuple #[.string (strOfNums m.nm), .pointer (some ⟨m.blk, 0, none⟩)]) w2 at hen
      gi_wp2
      refine ⟨trivial, (fun h => by cases h), hI.mono ?_⟩
      rintro e w3 ⟨rfl, q, rfl⟩
      have hg3 : w2.grownBy (w2.drewN q) none := ⟨rfl, rfl, rfl, Nat.le_refl _, fun _ _ _ => rfl⟩
      have hJ3 : J ss (w2.drewN q) := hJ ss w2 _ none hJ2 hg3 (fun r e => by cases e)
      have hrg3 := hrg2.kept hg3 (by simp) (by simp)
      generalize w2.drewN q = w3 at *
      cases hp : p m with
      | false =>
        have hC2 := hC.skip hnd hm hp hlk
        clear hI hY his hbox hrg2 hg2
        gi_wp2
        refine ⟨fun _ h => (by cases h), ?_⟩
        gi_wp2
        go_roundw
        case rel => exact ⟨_, cnt2, D, ss, hrg3, hC2, hJ3⟩
        case measure => rw [hrg3.left_eq, hrg.left_eq]; exact hlt
      | true =>
        obtain ⟨fn, tmps, assign, body, hy, hR⟩ := hY ss m w3 hJ3 ⟨hm, hp, hnew⟩
        clear hI hY his hbox hrg2 hg2
        gi_wp2
        refine ⟨(fun h => by cases h), hR.mono ?_⟩
        rintro e w4 ⟨rfl, hJ4, hK4⟩
        obtain ⟨D', cnt4, hrg4, hle, hsm⟩ := hK4 _ _ _ _ _ hrg3 (by show (left (kz m.nm) && !(kz m.nm).sameKey (kz m.nm)) = false; rw [hself]; simp)
        have hC4 := hC.step hnd hm hp hlk hself hsm
        gi_wp2
        go_roundw
        case rel => exact ⟨_, cnt4, D', ss ++ [m], hrg4, hC4, hJ4⟩
        case measure => rw [hrg4.left_eq, hrg.left_eq]; omega
end Go.Proofs.Ytdchoegaindnbaa
