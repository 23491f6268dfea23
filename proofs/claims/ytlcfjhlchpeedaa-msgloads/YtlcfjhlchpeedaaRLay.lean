/-
  Contract: the document's Lay hands back a message's bytes, or ErrArg.
-/
import Derived.Test.YtlcfjhlchpeedaaRLoad
namespace Go.Proofs.Ytlcfjhlchpeedaa
open Go.RowKit
open M
set_option linter.unusedVariables false
set_option maxRecDepth 1000000

set_option maxHeartbeats 4000000 in
theorem rlaym_any (m : Mg) (p q : Sl) (w : World) (hm : MsgIn w m p q) (hf : Fits m) :
    Calls Try.prog 14 #[.agg (MV m p q)] w fun x w' => LayOut m w x w' := by
  have hL := rload_any m p q _ (hm.alloc (.cells (MV m p q) 27)) hf
  have HF := hid hf
  clear hm hf
  unfold MV at hL ⊢
  go_enter Try.func14, Try.ntmps14
  go_wp2_with fail
  refine hL.mono ?_
  rintro x w1 (⟨hmay, ⟨v1, rfl, how1⟩, hb1⟩ | ⟨hmay, rfl, hb1⟩)
  · have HMay := hid hmay
    have HB1 : Hid (Below w.heap.size w w1) := (by go_grown : Below w.heap.size w _).trans (hb1.mono (by go_size))
    obtain ⟨a1, c1, rfl, hr1⟩ := Reads.own how1
    have hY := rlay_ok a1 _ c1 _ w1 hr1 (load_bytes m) (load_len hmay HF.out)
    have hs1 := HB1.out.size
    clear hL how1 hr1 hb1 hmay
    go_wp2_with fail
    refine hY.mono ?_
    rintro x w2 ⟨v2, rfl, how2, hb2⟩
    have HO := hid (own_base (B := w.heap.size) how2 hs1)
    have HB2 := hid (HB1.out.trans (hb2.mono hs1))
    clear hY how2 hb2
    go_wp2_with fail
    go_ret2
    exact .inl ⟨HMay.out, ⟨_, rfl, HO.out⟩, HB2.out⟩
  · have HMay := hid hmay
    have HB1 : Hid (Below w.heap.size w w1) := (by go_grown : Below w.heap.size w _).trans (hb1.mono (by go_size))
    clear hL hb1 hmay
    go_wp2_with fail
    go_ret2
    exact .inr ⟨HMay.out, rfl, HB1.out⟩

end Go.Proofs.Ytlcfjhlchpeedaa
