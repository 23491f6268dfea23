/-
  varint.All of numbers' bytes; a mark's tokens; slices.Compare of tokens: with new blocks and draws alone.
-/
import Derived.Test.YtdchoegaindnbaaPtMk
import Derived.Test.YtdchoegaindnbaaPtDrw
namespace Go.Proofs.Ytdchoegaindnbaa
open Go.RowKit
set_option linter.unusedVariables false
set_option maxRecDepth 1000000

/-- An append of one number to a row of the call's own: draws are not taken back. -/
theorem append_gw {P : Program} (w : World) {ops : Array Oper} {rest : List Oper} {o : Oper} {a : Act} {Q : Exit → Act → World → Prop} (hgd : o.guard = none) (s x : Operand) (t : TypeId)
    (ho : o.op = .call { callee := .builtin .append, args := #[s, x], argTypes := #[t, t] })
    (base : Nat) (e : TypeId) (i : TypeInfo) (z : Value) (bytes : Nat) (ht : P.underlying t = some (.slice e)) (hi : P.info? e = some i) (hz : i.zero = some z)
    (hsize : i.size = 1) (hby : i.bytes = bytes) (hzs : z.cells.size = 1) (k : IntKind)
    (v : Value) (n : Nat) (xs : List Int) (hs : a.eval s = v) (hown : w.ownsRow base e 1 v n (xs.map (Value.int k)))
    (ad : Addr) (m c : Nat) (news : List Int) (hx : a.eval x = .slice (some ad) m c) (hr : Reads k w (some ad) m c news)
    (h63 : n + m ≤ 9223372036854775807) (hbytes : (n + m) * bytes ≤ 140737488355328) (hbase : base ≤ w.heap.size)
    (h : ∀ v' w', w'.ownsRow base e 1 v' (n + m) ((xs ++ news).map (Value.int k)) → Below base w w' → w.drawn ≤ w'.drawn → wpList P ops Q rest (a.put o.dst v') w') : wpList P ops Q (o :: rest) a w := by
  refine wpList_plain hgd fun K hK => ?_
  obtain ⟨v', w', hrun, h1, h2, _⟩ := run_append_own (P := P) w base t o.type e i z 1 bytes ht hi hz hsize hby hzs (by decide) v n _ hown ad m c (news.map (Value.int k)) (by simpa using hr.size) hr.news (ints_oneCell k news) (by unfold maxLen; omega) hbytes hbase
  have hd := run_drawn P _ w v' w' hrun
  unfold Oper.wp
  simp [execOp, ho, resolve, invoke, builtin, hs, hx, hrun, Result.andThen]
  exact hK _ _ (h v' w' (by rw [List.map_append]; exact h1) ((Below.refl _ _).grown h2 hbase fun g hg => (hown.lt g hg).1) hd)
theorem encs_drop (ns : List Int) (k : Nat) (h : k < ns.length) : encsZ (ns.drop k) = encZ (ns[k]?.getD 0) ++ encsZ (ns.drop (k + 1)) := by
  rw [List.drop_eq_getElem_cons h]
  unfold encsZ
  rw [List.flatMap_cons]
  simp [h]
theorem encs_split (ns : List Int) (k : Nat) : (encsZ ns).drop (encsZ (ns.take k)).length = encsZ (ns.drop k) := by
  have : encsZ ns = encsZ (ns.take k) ++ encsZ (ns.drop k) := by
    unfold encsZ
    rw [← List.flatMap_append, List.take_append_drop]
  rw [this, List.drop_left]
set_option maxHeartbeats 2000000 in
theorem all_back (a : Option Addr) (len cap : Nat) (ns : List Int) (w : World) (hr : Reads .u8 w a len cap (encsZ ns)) (hu : IsU64s ns) (hlen : len ≤ 100000) {N : Nat} (hN : ns.length = N) :
    Calls Try.prog 59 #[.slice a len cap, .int .i64 N] w fun e w' => ∃ v : Value, e = .returned (.tuple #[v, .int .i64 0]) ∧ Hid (Gw w w' ∧ w'.ownsRow w.heap.size 33 1 v N (ns.map (Value.int .u64))) := by
  obtain ⟨i0, hi, hz0, hz1, hz2⟩ := info_parts Try.infoU64
  have HL : Hid ((encsZ ns).length = len) := hr.size
  have hrm := hr.room
  have hmo := hr.most
  have hNl : N ≤ len := by
    rw [← hr.size, ← hN]
    clear hr HL hN
    induction ns with
    | nil => simp
    | cons y r ih =>
      have h1 := ih fun z hz => hu z (by simp [hz])
      have h2 := (encZ_len (hu y (by simp)).2).1
      unfold encsZ at *
      rw [List.flatMap_cons, List.length_append, List.length_cons]
      omega
  have HR := hid hr
  have HU := hid hu
  have HN := hid hN
  clear hr hu hN
  have g0 : ¬ (N : Int) < 0 := by omega
  go_enter Try.func59, Try.ntmps59
  go_wp2_with fail
  go_loopw [6, 7] (fun u i wr => ∃ (k pos : Nat) (ao : Option Addr) (cu : Nat), k ≤ N ∧ i = .int .i64 pos ∧ u = .slice ao k cu ∧ Hid (pos = (encsZ (ns.take k)).length ∧ pos ≤ len) ∧ Hid (wr.ownsRow w.heap.size 33 1 (.slice ao k cu) k ((ns.take k).map (Value.int .u64)) ∧ Gw w wr)) (fun _ i _ => len - (intOf i).toNat)
  case atStart => exact ⟨0, 0, none, 0, by omega, rfl, rfl, ⟨by simp [encsZ], by omega⟩, World.ownsRow_nil _ _ _ _, Gw.refl _⟩
  case round =>
  obtain ⟨k, pos, ao, cu, hk, rfl, rfl, HP, HO⟩ := hrel
  rename World => wr
  have hpl := HP.out.2
  have hsz := HO.out.2.1.size
  by_cases hlt : pos < len
  · have hkN : k < N := by
      rcases Nat.lt_or_ge k N with h | h
      · exact h
      · have := HP.out.1
        rw [List.take_of_length_le (by have := HN.out; omega), HL.out] at this
        omega
    obtain ⟨b, off, rfl, _⟩ := HR.out.cell 0 (by omega)
    have hcp : ¬ cap = pos := by omega
    have hG := get_any _ _ _ _ wr ((HR.out.below HO.out.2.1).tail hlt) ((encsZ_bytes ns).drop pos) (by omega)
    have hx := HU.out.at k
    have hgt : gotV ((encsZ ns).drop pos) = .tuple #[.int .u64 (ns[k]?.getD 0), .int .i64 ((encZ (ns[k]?.getD 0)).length : Nat), .int .i64 0] := by
      rw [HP.out.1, encs_split, encs_drop ns k (by have := HN.out; omega)]
      exact gotV_of (got_back _ hx.1 hx.2)
    rw [hgt] at hG
    have HE : Hid (pos + (encZ (ns[k]?.getD 0)).length = (encsZ (ns.take (k + 1))).length) := by
      unfold Hid
      rw [encsZ_snoc ns k (by have := HN.out; omega), List.length_append, HP.out.1]
    have hle : pos + (encZ (ns[k]?.getD 0)).length ≤ len := by
      rw [HE.out, ← HL.out]
      have e : encsZ ns = encsZ (ns.take (k + 1)) ++ encsZ (ns.drop (k + 1)) := by
        unfold encsZ
        rw [← List.flatMap_append, List.take_append_drop]
      rw [e, List.length_append]
      omega
    have h1 := (encZ_len hx.2).1
    have HT : Hid ((ns.take k).map (Value.int .u64) ++ [.int .u64 (ns[k]?.getD 0)] = (ns.take (k + 1)).map (Value.int .u64)) := by
      unfold Hid
      rw [take_snoc (by have := HN.out; omega), List.map_append]
      rfl
    have how := HO.out.1
    have HGw := hid HO.out.2
    clear hgt HO
    generalize (encZ (ns[k]?.getD 0)).length = j at *
    generalize ns[k]?.getD 0 = y at *
    have g1 : (pos : Int) < (len : Int) := by omega
    have g2 : ¬ (k : Int) = (N : Int) := by omega
    have g3 : ¬ k = N := by omega
    go_wp2_with fail
    refine hG.mono ?_
    rintro e w2 ⟨rfl, rfl⟩
    go_wp2_with (at_builtin; refine append_gw _ rfl (.tmp 32) (.tmp 34) 73 rfl w.heap.size 33 i0 (.int .u64 0) 8 Try.underlying73 hi hz0 hz1 hz2 rfl .u64 _ k (ns.take k) rfl (how.alloc _) _ 1 1 [y] rfl (Reads.one _ _ _) (by omega) (by omega) (by simp; omega) ?_; intro v4 w4 how4 hb4 hd4)
    obtain ⟨a4, c4, rfl, _⟩ := Reads.own (k := .u64) how4
    have HN4 : Hid (w4.ownsRow w.heap.size 33 1 (.slice a4 (k + 1) c4) (k + 1) ((ns.take (k + 1)).map (Value.int .u64)) ∧ Gw w w4) := by
      refine ⟨?_, ⟨HGw.out.1.trans (((Below.refl _ _).alloc hsz _).trans hb4), Nat.le_trans HGw.out.2 hd4⟩⟩
      rw [← HT.out]
      rw [List.map_append] at how4
      exact how4
    clear how how4 hb4 hd4 hG
    go_wp2_with fail
    go_roundw
    case rel => exact ⟨k + 1, pos + j, a4, c4, by omega, by go_num, by simp, ⟨HE.out, hle⟩, HN4⟩
    case measure => simp [intOf]; omega
  · have hkN : k = N := by
      have hp := HP.out.1
      rcases Nat.lt_or_ge k N with h | h
      · exfalso
        have e : encsZ ns = encsZ (ns.take k) ++ encsZ (ns.drop k) := by
          unfold encsZ
          rw [← List.flatMap_append, List.take_append_drop]
        have h3 := HL.out
        rw [e, List.length_append, encs_drop ns k (by have := HN.out; omega), List.length_append] at h3
        have := (encZ_len (HU.out.at k).2).1
        omega
      · omega
    have HE : Hid (Gw w wr ∧ wr.ownsRow w.heap.size 33 1 (.slice ao k cu) N (ns.map (Value.int .u64))) := by
      refine ⟨HO.out.2, ?_⟩
      have := HO.out.1
      rw [List.take_of_length_le (by have := HN.out; omega)] at this
      rw [← hkN]
      exact this
    clear HO
    go_wp2
    go_ret2
    exact ⟨_, rfl, HE⟩
end Go.Proofs.Ytdchoegaindnbaa
