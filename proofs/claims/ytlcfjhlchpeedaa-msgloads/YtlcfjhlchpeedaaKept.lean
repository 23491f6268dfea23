/-
  Contract: the document's kept hands back a message's fields that count.
-/
import Derived.Test.YtlcfjhlchpeedaaRRead
import Derived.Deep.RegionWith
namespace Go.Proofs.Ytlcfjhlchpeedaa
open Go.RowKit
open M
set_option linter.unusedVariables false
set_option maxRecDepth 1000000

theorem three_blocks (w : World) (o1 o2 o3 : Obj) : Below w.heap.size w (((w.alloc o1).alloc o2).alloc o3) ∧ (((w.alloc o1).alloc o2).alloc o3).heap[w.heap.size]? = some o1 ∧ (((w.alloc o1).alloc o2).alloc o3).heap[w.heap.size + 1]? = some o2 ∧ (((w.alloc o1).alloc o2).alloc o3).heap[w.heap.size + 2]? = some o3 := by
  obtain ⟨h1, h2, h3⟩ := two_blocks w o1 o2
  have hb : Below ((w.alloc o1).alloc o2).heap.size ((w.alloc o1).alloc o2) (((w.alloc o1).alloc o2).alloc o3) := (Below.refl _ _).alloc (Nat.le_refl _) _
  refine ⟨h1.alloc h1.size _, block_below h2 hb, block_below h3 hb, ?_⟩
  have h4 := heap_alloc_new ((w.alloc o1).alloc o2) o3
  have e : ((w.alloc o1).alloc o2).heap.size = w.heap.size + 2 := by simp
  rw [e] at h4
  exact h4

/-- A message's fields that count. -/
def keptM (m : Mg) : Mg := (lettersF m.kind).foldl (keepC m) (zeroM m.kind)
/-- What kept has done. -/
def KPost (m : Mg) (w : World) (x : Ending) (w' : World) : Prop :=
  ∃ p' q' : Sl, x = .returned (.agg (MV (keptM m) p' q')) ∧ MsgIn w' (keptM m) p' q' ∧ Below w.heap.size w w'
/-- How it stands at the loop's head: the argument, the result's variable, and what is kept so far. -/
def KRel (m : Mg) (p q : Sl) (w : World) (L : List Int) (iv : Value) (wr : World) : Prop :=
  ∃ (j : Nat) (out : Mg) (p' q' : Sl), j ≤ L.length ∧ iv = .int .i64 j ∧ wr.heap[w.heap.size]? = some (.cells (MV m p q) 27) ∧ wr.heap[w.heap.size + 1]? = some (.cells (MV (zeroM 0) ⟨none, 0, 0⟩ ⟨none, 0, 0⟩) 27) ∧
    wr.heap[w.heap.size + 2]? = some (.cells (MV out p' q') 27) ∧ (∀ W, Below w.heap.size w W → MsgIn W out p' q') ∧ Below w.heap.size w wr ∧ out = (L.take j).foldl (keepC m) (zeroM m.kind)
theorem cast_rel {m : Mg} {p q : Sl} {w : World} {L : List Int} {a b : Value} {wr : World} (h : a = b) (k : KRel m p q w L b wr) : KRel m p q w L a wr := h ▸ k
/-- Behind the table's look-up. -/
def KCut (m : Mg) (p q : Sl) (w : World) (wx : World) : Prop :=
  wx.heap[w.heap.size]? = some (.cells (MV m p q) 27) ∧ wx.heap[w.heap.size + 1]? = some (.cells (MV (zeroM 0) ⟨none, 0, 0⟩ ⟨none, 0, 0⟩) 27) ∧ wx.heap[w.heap.size + 2]? = some (.cells (MV (zeroM m.kind) ⟨none, 0, 0⟩ ⟨none, 0, 0⟩) 27) ∧ Below w.heap.size w wx

set_option maxHeartbeats 8000000 in
theorem kept_any (m : Mg) (p q : Sl) (w : World) (hm : MsgIn w m p q) (k1 : 1 ≤ m.kind) (k2 : m.kind ≤ 12) :
    Calls Try.prog 35 #[.agg (MV m p q)] w (KPost m w) := by
  obtain ⟨hb0, h0, h1, h2⟩ := three_blocks w (.cells (MV m p q) 27) (.cells (MV (zeroM 0) ⟨none, 0, 0⟩ ⟨none, 0, 0⟩) 27) (.cells (MV (zeroM m.kind) ⟨none, 0, 0⟩ ⟨none, 0, 0⟩) 27)
  have hsz0 : (((w.alloc (.cells (MV m p q) 27)).alloc (.cells (MV (zeroM 0) ⟨none, 0, 0⟩ ⟨none, 0, 0⟩) 27)).alloc (.cells (MV (zeroM m.kind) ⟨none, 0, 0⟩ ⟨none, 0, 0⟩) 27)).heap.size = w.heap.size + 3 := by simp
  have hk0 : (((w.alloc (.cells (MV m p q) 27)).alloc (.cells (MV (zeroM 0) ⟨none, 0, 0⟩ ⟨none, 0, 0⟩) 27)).alloc (.cells (MV (zeroM m.kind) ⟨none, 0, 0⟩ ⟨none, 0, 0⟩) 27)).cell? ⟨w.heap.size, 0, none⟩ = some (.int .i64 m.kind) := (MV_cells h0).1
  have HB0 := hid hb0
  have H0 := hid h0
  have H1 := hid h1
  have H2 := hid h2
  have HSZ := hid hsz0
  have HK0 := hid hk0
  have HIN : Hid (∀ W, Below w.heap.size w W → MsgIn W m p q) := fun W hb => hm.below hb
  clear hm hb0 h0 h1 h2 hsz0 hk0
  rw [MV_zero, MV_zero] at HB0 HSZ HK0 H0 H1 H2
  have k0 : 0 ≤ m.kind := by omega
  obtain ⟨L, HLL⟩ : ∃ L, Hid (L = lettersF m.kind) := ⟨_, rfl⟩
  have HLet : Hid (∀ c ∈ L, Letter c) := by unfold Hid; rw [HLL.out]; exact lettersF_ok _
  have hss := strOfNums_size L
  have hl4 : L.length ≤ 4 := by rw [HLL.out]; exact lettersF_len _
  have HLK : Hid (lettersF ((m.kind.toNat : Nat) : Int) = L) := by unfold Hid; rw [HLL.out, Int.toNat_of_nonneg k0]
  unfold MV at HB0 HSZ HK0
  unfold MV
  go_enter Try.func35, Try.ntmps35
  go_wp2_with fail
  go_cut [4] (fun v wx => v = .string (strOfNums L) ∧ KCut m p q w wx)
  case first =>
    have hck0 := HK0.out
    go_region_with (first | (go_at_call 27; refine (fields_any _).mono ?_; rintro x w2 ⟨g, rfl, hcl, hb2⟩; have hck := hcl m.kind.toNat (by omega); rw [HLK.out] at hck; have hS2 : w2.cell? ⟨w.heap.size, 0, none⟩ = some (.int .i64 m.kind) := (hb2.cell (by go_size)).trans hck0))
    all_goals
      have HB2 : Hid (Below w.heap.size w w2) := HB0.out.trans ((Below.drew (Below.refl _ _) |>.trans hb2).mono (by go_size))
      have HA2 : Hid (w2.heap[w.heap.size]? = some (.cells (MV m p q) 27)) := (hb2.block _ (by go_size)).trans H0.out
      have HR2 : Hid (w2.heap[w.heap.size + 1]? = some (.cells (MV (zeroM 0) ⟨none, 0, 0⟩ ⟨none, 0, 0⟩) 27)) := (hb2.block _ (by go_size)).trans H1.out
      have HO2 : Hid (w2.heap[w.heap.size + 2]? = some (.cells (MV (zeroM m.kind) ⟨none, 0, 0⟩ ⟨none, 0, 0⟩) 27)) := (hb2.block _ (by go_size)).trans H2.out
      clear hcl hb2 hS2 HB0 H0 H1 H2 HSZ HK0
      go_wp2_with fail
      go_meet
      exact ⟨by first | rfl | rw [HLL.out, show max m.kind 0 = m.kind by omega], HA2.out, HR2.out, HO2.out, HB2.out⟩
  case rest =>
    obtain ⟨rfl, hcut⟩ := hcut
    have HCut := hid hcut
    clear hcut HB0 H0 H1 H2 HSZ HK0 HLK
    go_wp2_with fail
    go_loopw [5] (fun iv wr => KRel m p q w L iv wr) (fun iv _ => L.length - (intOf iv).toNat)
    case atStart =>
      obtain ⟨HA2, HR2, HO2, HB2⟩ := HCut.out
      exact ⟨0, zeroM m.kind, ⟨none, 0, 0⟩, ⟨none, 0, 0⟩, by omega, rfl, HA2, HR2, HO2, fun W _ => zero_in W _, HB2, rfl⟩
    case round =>
      clear HCut
      obtain ⟨j, out, p', q', hj, rfl, hA, hR, hO, hOI, hbel, hOut⟩ := hrel
      have HOut := hid hOut
      have HOI := hid hOI
      have hszO := (Array.getElem?_eq_some_iff.1 hO).1
      have HA := hid hA
      have HR := hid hR
      have HO := hid hO
      have HBel := hid hbel
      clear hA hR hO hbel hOut hOI
      by_cases hlt : j < L.length
      · obtain ⟨c, hc⟩ : ∃ c, L[j]? = some c := ⟨_, List.getElem?_eq_getElem hlt⟩
        obtain ⟨a0, a1, a2, a3, a4, a5, a6, a7, a8, a9, a10, a11⟩ := MV_cells HA.out
        obtain ⟨o0, o1, o2, o3, o4, o5, o6, o7, o8, o9, o10, o11⟩ := MV_cells HO.out
        have hfo := fun j => Joins.unfrozen_of_block HO.out j
        have hlet := HLet.out c (List.mem_of_getElem? hc)
        have HJ : Hid ((L.take (j + 1)).foldl (keepC m) (zeroM m.kind) = keepC m out c) := by unfold Hid; rw [take_foldl hc, HOut.out]
        have hix := fun W => index_letter (P := Try.prog) 9 W Try.underlying9 hc hlet
        clear HLet hc HOut HLL
        rcases hlet with rfl | rfl | rfl | rfl | rfl | rfl | rfl | rfl | rfl
        · have hblk : (wr.setCell ⟨w.heap.size + 2, 1, none⟩ (.int .u64 m.st)).heap[w.heap.size + 2]? = some (.cells (MV { out with st := m.st } p' q') 27) := (Joins.block_setCell (i := 1) HO.out _)
          have hbt : But [w.heap.size + 2] wr (wr.setCell ⟨w.heap.size + 2, 1, none⟩ (.int .u64 m.st)) := ((But.refl _ _).set (by simp) _)
          have HREL : Hid (KRel m p q w L (.int .i64 ((j + 1 : Nat) : Int)) (wr.setCell ⟨w.heap.size + 2, 1, none⟩ (.int .u64 m.st))) :=
            ⟨j + 1, { out with st := m.st }, p', q', by omega, rfl, (hbt.block _ (by omega) (by simp)).trans HA.out, (hbt.block _ (by omega) (by simp)).trans HR.out, hblk, fun W hW => ⟨(HOI.out W hW).pr, (HOI.out W hW).li, (HOI.out W hW).hp, (HOI.out W hW).hq⟩, HBel.out.trans (hbt.to (by simp) HBel.out.size), HJ.out.symm⟩
          clear hblk hbt HA HR HO HBel HJ HOI HIN a0 a2 a3 a4 a5 a6 a7 a8 a9 a10 a11 o0 o2 o3 o4 o5 o6 o7 o8 o9 o10 o11
          go_wp2_with fail
          go_roundw
          case rel => exact cast_rel (by go_num) HREL.out
          case measure => simp [intOf]; omega
        · have hblk : (wr.setCell ⟨w.heap.size + 2, 2, none⟩ (.int .u64 m.se)).heap[w.heap.size + 2]? = some (.cells (MV { out with se := m.se } p' q') 27) := (Joins.block_setCell (i := 2) HO.out _)
          have hbt : But [w.heap.size + 2] wr (wr.setCell ⟨w.heap.size + 2, 2, none⟩ (.int .u64 m.se)) := ((But.refl _ _).set (by simp) _)
          have HREL : Hid (KRel m p q w L (.int .i64 ((j + 1 : Nat) : Int)) (wr.setCell ⟨w.heap.size + 2, 2, none⟩ (.int .u64 m.se))) :=
            ⟨j + 1, { out with se := m.se }, p', q', by omega, rfl, (hbt.block _ (by omega) (by simp)).trans HA.out, (hbt.block _ (by omega) (by simp)).trans HR.out, hblk, fun W hW => ⟨(HOI.out W hW).pr, (HOI.out W hW).li, (HOI.out W hW).hp, (HOI.out W hW).hq⟩, HBel.out.trans (hbt.to (by simp) HBel.out.size), HJ.out.symm⟩
          clear hblk hbt HA HR HO HBel HJ HOI HIN a0 a1 a3 a4 a5 a6 a7 a8 a9 a10 a11 o0 o1 o3 o4 o5 o6 o7 o8 o9 o10 o11
          go_wp2_with fail
          go_roundw
          case rel => exact cast_rel (by go_num) HREL.out
          case measure => simp [intOf]; omega
        · have hblk : (wr.setCell ⟨w.heap.size + 2, 3, none⟩ (.int .u64 m.ate)).heap[w.heap.size + 2]? = some (.cells (MV { out with ate := m.ate } p' q') 27) := (Joins.block_setCell (i := 3) HO.out _)
          have hbt : But [w.heap.size + 2] wr (wr.setCell ⟨w.heap.size + 2, 3, none⟩ (.int .u64 m.ate)) := ((But.refl _ _).set (by simp) _)
          have HREL : Hid (KRel m p q w L (.int .i64 ((j + 1 : Nat) : Int)) (wr.setCell ⟨w.heap.size + 2, 3, none⟩ (.int .u64 m.ate))) :=
            ⟨j + 1, { out with ate := m.ate }, p', q', by omega, rfl, (hbt.block _ (by omega) (by simp)).trans HA.out, (hbt.block _ (by omega) (by simp)).trans HR.out, hblk, fun W hW => ⟨(HOI.out W hW).pr, (HOI.out W hW).li, (HOI.out W hW).hp, (HOI.out W hW).hq⟩, HBel.out.trans (hbt.to (by simp) HBel.out.size), HJ.out.symm⟩
          clear hblk hbt HA HR HO HBel HJ HOI HIN a0 a1 a2 a4 a5 a6 a7 a8 a9 a10 a11 o0 o1 o2 o4 o5 o6 o7 o8 o9 o10 o11
          go_wp2_with fail
          go_roundw
          case rel => exact cast_rel (by go_num) HREL.out
          case measure => simp [intOf]; omega
        · have hblk : (wr.setCell ⟨w.heap.size + 2, 4, none⟩ (.int .u64 m.inc)).heap[w.heap.size + 2]? = some (.cells (MV { out with inc := m.inc } p' q') 27) := (Joins.block_setCell (i := 4) HO.out _)
          have hbt : But [w.heap.size + 2] wr (wr.setCell ⟨w.heap.size + 2, 4, none⟩ (.int .u64 m.inc)) := ((But.refl _ _).set (by simp) _)
          have HREL : Hid (KRel m p q w L (.int .i64 ((j + 1 : Nat) : Int)) (wr.setCell ⟨w.heap.size + 2, 4, none⟩ (.int .u64 m.inc))) :=
            ⟨j + 1, { out with inc := m.inc }, p', q', by omega, rfl, (hbt.block _ (by omega) (by simp)).trans HA.out, (hbt.block _ (by omega) (by simp)).trans HR.out, hblk, fun W hW => ⟨(HOI.out W hW).pr, (HOI.out W hW).li, (HOI.out W hW).hp, (HOI.out W hW).hq⟩, HBel.out.trans (hbt.to (by simp) HBel.out.size), HJ.out.symm⟩
          clear hblk hbt HA HR HO HBel HJ HOI HIN a0 a1 a2 a3 a5 a6 a7 a8 a9 a10 a11 o0 o1 o2 o3 o5 o6 o7 o8 o9 o10 o11
          go_wp2_with fail
          go_roundw
          case rel => exact cast_rel (by go_num) HREL.out
          case measure => simp [intOf]; omega
        · have hblk : (wr.setCell ⟨w.heap.size + 2, 5, none⟩ (.int .u64 m.n)).heap[w.heap.size + 2]? = some (.cells (MV { out with n := m.n } p' q') 27) := (Joins.block_setCell (i := 5) HO.out _)
          have hbt : But [w.heap.size + 2] wr (wr.setCell ⟨w.heap.size + 2, 5, none⟩ (.int .u64 m.n)) := ((But.refl _ _).set (by simp) _)
          have HREL : Hid (KRel m p q w L (.int .i64 ((j + 1 : Nat) : Int)) (wr.setCell ⟨w.heap.size + 2, 5, none⟩ (.int .u64 m.n))) :=
            ⟨j + 1, { out with n := m.n }, p', q', by omega, rfl, (hbt.block _ (by omega) (by simp)).trans HA.out, (hbt.block _ (by omega) (by simp)).trans HR.out, hblk, fun W hW => ⟨(HOI.out W hW).pr, (HOI.out W hW).li, (HOI.out W hW).hp, (HOI.out W hW).hq⟩, HBel.out.trans (hbt.to (by simp) HBel.out.size), HJ.out.symm⟩
          clear hblk hbt HA HR HO HBel HJ HOI HIN a0 a1 a2 a3 a4 a6 a7 a8 a9 a10 a11 o0 o1 o2 o3 o4 o6 o7 o8 o9 o10 o11
          go_wp2_with fail
          go_roundw
          case rel => exact cast_rel (by go_num) HREL.out
          case measure => simp [intOf]; omega
        · have hblk : (wr.setCell ⟨w.heap.size + 2, 6, none⟩ (.int .u64 m.cnt)).heap[w.heap.size + 2]? = some (.cells (MV { out with cnt := m.cnt } p' q') 27) := (Joins.block_setCell (i := 6) HO.out _)
          have hbt : But [w.heap.size + 2] wr (wr.setCell ⟨w.heap.size + 2, 6, none⟩ (.int .u64 m.cnt)) := ((But.refl _ _).set (by simp) _)
          have HREL : Hid (KRel m p q w L (.int .i64 ((j + 1 : Nat) : Int)) (wr.setCell ⟨w.heap.size + 2, 6, none⟩ (.int .u64 m.cnt))) :=
            ⟨j + 1, { out with cnt := m.cnt }, p', q', by omega, rfl, (hbt.block _ (by omega) (by simp)).trans HA.out, (hbt.block _ (by omega) (by simp)).trans HR.out, hblk, fun W hW => ⟨(HOI.out W hW).pr, (HOI.out W hW).li, (HOI.out W hW).hp, (HOI.out W hW).hq⟩, HBel.out.trans (hbt.to (by simp) HBel.out.size), HJ.out.symm⟩
          clear hblk hbt HA HR HO HBel HJ HOI HIN a0 a1 a2 a3 a4 a5 a7 a8 a9 a10 a11 o0 o1 o2 o3 o4 o5 o7 o8 o9 o10 o11
          go_wp2_with fail
          go_roundw
          case rel => exact cast_rel (by go_num) HREL.out
          case measure => simp [intOf]; omega
        · have hblk : (wr.setCell ⟨w.heap.size + 2, 7, none⟩ (.int .i64 m.why)).heap[w.heap.size + 2]? = some (.cells (MV { out with why := m.why } p' q') 27) := (Joins.block_setCell (i := 7) HO.out _)
          have hbt : But [w.heap.size + 2] wr (wr.setCell ⟨w.heap.size + 2, 7, none⟩ (.int .i64 m.why)) := ((But.refl _ _).set (by simp) _)
          have HREL : Hid (KRel m p q w L (.int .i64 ((j + 1 : Nat) : Int)) (wr.setCell ⟨w.heap.size + 2, 7, none⟩ (.int .i64 m.why))) :=
            ⟨j + 1, { out with why := m.why }, p', q', by omega, rfl, (hbt.block _ (by omega) (by simp)).trans HA.out, (hbt.block _ (by omega) (by simp)).trans HR.out, hblk, fun W hW => ⟨(HOI.out W hW).pr, (HOI.out W hW).li, (HOI.out W hW).hp, (HOI.out W hW).hq⟩, HBel.out.trans (hbt.to (by simp) HBel.out.size), HJ.out.symm⟩
          clear hblk hbt HA HR HO HBel HJ HOI HIN a0 a1 a2 a3 a4 a5 a6 a8 a9 a10 a11 o0 o1 o2 o3 o4 o5 o6 o8 o9 o10 o11
          go_wp2_with fail
          go_roundw
          case rel => exact cast_rel (by go_num) HREL.out
          case measure => simp [intOf]; omega
        · have hblk : (((wr.setCell ⟨w.heap.size + 2, 8, none⟩ (.int .u64 m.seed)).setCell ⟨w.heap.size + 2, 9, none⟩ (.slice p.a p.l p.c)).setCell ⟨w.heap.size + 2, 10, none⟩ (.int .i64 m.most)).heap[w.heap.size + 2]? = some (.cells (MV { out with seed := m.seed, most := m.most, pr := m.pr } p q') 27) := (Joins.block_setCell (i := 10) (Joins.block_setCell (i := 9) (Joins.block_setCell (i := 8) HO.out _) _) _)
          have hbt : But [w.heap.size + 2] wr (((wr.setCell ⟨w.heap.size + 2, 8, none⟩ (.int .u64 m.seed)).setCell ⟨w.heap.size + 2, 9, none⟩ (.slice p.a p.l p.c)).setCell ⟨w.heap.size + 2, 10, none⟩ (.int .i64 m.most)) := ((((But.refl _ _).set (by simp) _).set (by simp) _).set (by simp) _)
          have HREL : Hid (KRel m p q w L (.int .i64 ((j + 1 : Nat) : Int)) (((wr.setCell ⟨w.heap.size + 2, 8, none⟩ (.int .u64 m.seed)).setCell ⟨w.heap.size + 2, 9, none⟩ (.slice p.a p.l p.c)).setCell ⟨w.heap.size + 2, 10, none⟩ (.int .i64 m.most))) :=
            ⟨j + 1, { out with seed := m.seed, most := m.most, pr := m.pr }, p, q', by omega, rfl, (hbt.block _ (by omega) (by simp)).trans HA.out, (hbt.block _ (by omega) (by simp)).trans HR.out, hblk, fun W hW => ⟨(HIN.out W hW).pr, (HOI.out W hW).li, (HIN.out W hW).hp, (HOI.out W hW).hq⟩, HBel.out.trans (hbt.to (by simp) HBel.out.size), HJ.out.symm⟩
          clear hblk hbt HA HR HO HBel HJ HOI HIN a0 a1 a2 a3 a4 a5 a6 a7 a11 o0 o1 o2 o3 o4 o5 o6 o7 o11
          go_wp2_with fail
          go_roundw
          case rel => exact cast_rel (by go_num) HREL.out
          case measure => simp [intOf]; omega
        · have hblk : (wr.setCell ⟨w.heap.size + 2, 11, none⟩ (.slice q.a q.l q.c)).heap[w.heap.size + 2]? = some (.cells (MV { out with li := m.li } p' q) 27) := (Joins.block_setCell (i := 11) HO.out _)
          have hbt : But [w.heap.size + 2] wr (wr.setCell ⟨w.heap.size + 2, 11, none⟩ (.slice q.a q.l q.c)) := ((But.refl _ _).set (by simp) _)
          have HREL : Hid (KRel m p q w L (.int .i64 ((j + 1 : Nat) : Int)) (wr.setCell ⟨w.heap.size + 2, 11, none⟩ (.slice q.a q.l q.c))) :=
            ⟨j + 1, { out with li := m.li }, p', q, by omega, rfl, (hbt.block _ (by omega) (by simp)).trans HA.out, (hbt.block _ (by omega) (by simp)).trans HR.out, hblk, fun W hW => ⟨(HOI.out W hW).pr, (HIN.out W hW).li, (HOI.out W hW).hp, (HIN.out W hW).hq⟩, HBel.out.trans (hbt.to (by simp) HBel.out.size), HJ.out.symm⟩
          clear hblk hbt HA HR HO HBel HJ HOI HIN a0 a1 a2 a3 a4 a5 a6 a7 a8 a9 a10 o0 o1 o2 o3 o4 o5 o6 o7 o8 o9 o10
          go_wp2_with fail
          go_roundw
          case rel => exact cast_rel (by go_num) HREL.out
          case measure => simp [intOf]; omega
      · have HF : Hid (keptM m = out) := by
          have := HOut.out
          rw [List.take_of_length_le (by omega)] at this
          unfold Hid keptM
          rw [← HLL.out]
          exact this.symm
        obtain ⟨o0, o1, o2, o3, o4, o5, o6, o7, o8, o9, o10, o11⟩ := MV_cells HO.out
        obtain ⟨z0, z1, z2, z3, z4, z5, z6, z7, z8, z9, z10, z11⟩ := MV_cells HR.out
        simp only [zeroM] at z0 z1 z2 z3 z4 z5 z6 z7 z8 z9 z10 z11
        have hfz := fun j => Joins.unfrozen_of_block HR.out j
        clear HLet HOut HLL HA HO
        go_wp2_with fail
        change bodyPost _ _ _ _ _ (setMsg wr (w.heap.size + 1) out p' q')
        have hb9 := setMsg_block (m := out) (p := p') (q := q') HR.out
        have hbt9 := setMsg_but wr (w.heap.size + 1) out p' q'
        have hbel9 := HBel.out.trans (hbt9.to (B := w.heap.size) (by simp) HBel.out.size)
        clear z0 z1 z2 z3 z4 z5 z6 z7 z8 z9 z10 z11 hfz o0 o1 o2 o3 o4 o5 o6 o7 o8 o9 o10 o11
        generalize setMsg wr (w.heap.size + 1) out p' q' = w9 at *
        obtain ⟨g0, g1, g2, g3, g4, g5, g6, g7, g8, g9, g10, g11⟩ := MV_cells hb9
        refine bodyPost_ret (v := .agg (MV out p' q')) (by simp [results, Try.results35, go_sem, MV, *]) rfl ?_
        unfold KPost
        rw [HF.out]
        exact ⟨p', q', rfl, HOI.out _ hbel9, hbel9⟩

end Go.Proofs.Ytlcfjhlchpeedaa
