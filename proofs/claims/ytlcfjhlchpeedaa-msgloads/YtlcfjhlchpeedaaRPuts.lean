/-
  Contract: the document's Put hands back the bytes handed in and behind them each number's; in memory of the call's own.
-/
import Derived.Test.YtlcfjhlchpeedaaSeals
import Derived.Test.YtlcfjhlchpeedaaPuts
namespace Go.Proofs.Ytlcfjhlchpeedaa
open Go.RowKit
open M
set_option linter.unusedVariables false
set_option maxRecDepth 1000000

set_option maxHeartbeats 1000000 in
theorem rput_any (a : Option Addr) (len cap : Nat) (bs : List Int) (a2 : Option Addr) (l2 c2 : Nat) (ns : List Int) (w : World) (hr : Reads .u8 w a len cap bs) (hr2 : Reads .u64 w a2 l2 c2 ns) (hn : IsU64s ns) (hlen : len ≤ 100000) (hl2 : l2 ≤ 10000) :
    Calls Try.prog 29 #[.slice a len cap, .slice a2 l2 c2] w fun e w' => ∃ v', e = .returned v' ∧ w'.ownsRow w.heap.size 5 1 v' (len + (encsZ ns).length) ((bs ++ encsZ ns).map (Value.int .u8)) ∧ Below w.heap.size w w' := by
  obtain ⟨i0, hi, hz0, hz1, hz2⟩ := info_parts Try.info5
  have HL : Hid (ns.length = l2) := hr2.size
  go_enter Try.func29, Try.ntmps29
  go_wp2_with (at_builtin; refine append_any _ rfl (.const (.slice none 0 0)) (.tmp 7) 30 rfl w.heap.size 5 i0 (.int .u8 0) 1 Try.underlying30 hi hz0 hz1 hz2 rfl .u8 _ 0 [] rfl (World.ownsRow_nil _ _ _ _) a len cap bs rfl hr (by omega) (by omega) (by omega) ?_; intro v' w1 how1 hb1)
  rw [List.nil_append, Nat.zero_add] at how1
  go_loopw [5, 6] (fun u i wr => ∃ (k : Nat), k ≤ l2 ∧ i = .int .i64 k ∧ wr.ownsRow w.heap.size 5 1 u (len + (encsZ (ns.take k)).length) ((bs ++ encsZ (ns.take k)).map (Value.int .u8)) ∧ Below w.heap.size w wr) (fun _ i _ => l2 - (intOf i).toNat)
  case atStart => exact ⟨0, by omega, rfl, by simpa [encsZ] using how1, hb1⟩
  case round =>
    obtain ⟨k, hk, rfl, how, hb⟩ := hrel
    have hsz := hb.size
    by_cases hlt : k < l2
    · obtain ⟨b2, o2, rfl, hc0⟩ := hr2.cell k hlt
      have hc := (hb.cell (World.block_lt_of_cell? _ _ hc0)).trans hc0
      obtain ⟨n0, n1⟩ := hn.at k
      have HS : Hid (encsZ (ns.take (k + 1)) = encsZ (ns.take k) ++ encZ (ns[k]?.getD 0)) := encsZ_snoc ns k (by have := HL.out; omega)
      have hle : (encsZ (ns.take k)).length ≤ 10 * 10000 := by
        have := encsZ_len (ns := ns.take k) fun x hx => hn x (List.mem_of_mem_take hx)
        simp at this; omega
      have hA := rbytes_any (ns[k]?.getD 0) wr n0 n1
      have h10 : (encZ (ns[k]?.getD 0)).length ≤ 10 := (encZ_len n1).2
      clear hc0 hr hr2 hn how1 hb1
      generalize ns[k]?.getD 0 = x at *
      go_wp2_with fail
      refine hA.mono ?_
      rintro e w2 ⟨v2, rfl, how2, hb2⟩
      obtain ⟨a3, c3, rfl, hr3⟩ := Reads.own how2
      have how3 := own_stays how hb2
      have hsz2 := hb2.size
      go_wp2_with (at_builtin; refine append_any _ rfl (.tmp 15) (.tmp 20) 30 rfl w.heap.size 5 i0 (.int .u8 0) 1 Try.underlying30 hi hz0 hz1 hz2 rfl .u8 _ _ _ rfl how3 a3 _ c3 (encZ x) rfl hr3 (by omega) (by omega) (by omega) ?_; intro v4 w4 how4 hb4)
      go_roundw
      case rel => exact ⟨k + 1, by omega, by go_num, by rw [HS.out, List.length_append, ← Nat.add_assoc, ← List.append_assoc]; exact how4, hb.trans ((hb2.mono hsz).trans hb4)⟩
      case measure => simp [intOf]; omega
    · have HT : Hid (ns.take k = ns) := List.take_of_length_le (by have := HL.out; omega)
      go_wp2
      go_ret
      exact ⟨_, rfl, by rw [HT.out] at how; exact how, hb⟩


end Go.Proofs.Ytlcfjhlchpeedaa
