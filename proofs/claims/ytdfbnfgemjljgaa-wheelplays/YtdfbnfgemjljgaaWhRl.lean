/-
  The document's wheel: Set, of some.
-/
import Derived.Test.YtdfbnfgemjljgaaWhRj
import Derived.Deep.DrawnRows
namespace Go.Proofs.Ytdfbnfgemjljgaa
open Go.RowKit
set_option linter.unusedVariables false
set_option linter.unusedSimpArgs false
set_option maxRecDepth 1000000
attribute [local go_sem ↓] Go.wp_at_zero Go.wp_at_succ

set_option maxHeartbeats 16000000 in
theorem rset_some {W : World} {B : Nat} {T last : Int} {a : Option Addr} {len cap : Nat} {L : List Tm} (h : RwAt W B T last a len cap L) (hT : 0 ≤ T ∧ T ≤ 1099511627776) (hl0 : 0 ≤ last ∧ last ≤ 2147483647) (Hn : Hid (∃ ad, a = some ad)) (now after kind label : Int) (ha : isI after) (hk : isI kind) (hu : isU label) :
    Calls Try.prog 16 #[.pointer (some ⟨B, 0, none⟩), .int .i64 now, .int .i64 after, .int .i64 kind, .int .u64 label] W fun e w' => e = .returned (.tuple #[.int .i64 (if setC last L after = 0 then last + 1 else 0), .int .i64 (setC last L after)]) ∧
      Hid (RwO W B (timeZ T now) (if setC last L after = 0 then last + 1 else last) (setL (timeZ T now) last after kind label L) w') := by
  have hLa := rlater_any h now
  have hTb := timeZ_bd (now := now) hT
  have hBW := lt_of_block h.obj
  obtain ⟨T', HT⟩ : ∃ T', Hid (timeZ T now = T') := ⟨_, rfl⟩
  rw [HT.out] at hLa hTb ⊢
  obtain ⟨C, HC⟩ : ∃ C, Hid (setC last L after = C) := ⟨_, rfl⟩
  obtain ⟨L', HL'⟩ : ∃ L', Hid (setL T' last after kind label L = L') := ⟨_, rfl⟩
  obtain ⟨l1, Hl1⟩ : ∃ l1, Hid ((if C = 0 then last + 1 else last) = l1) := ⟨_, rfl⟩
  obtain ⟨r1, Hr1⟩ : ∃ r1, Hid ((if C = 0 then last + 1 else 0) = r1) := ⟨_, rfl⟩
  rw [HC.out, HL'.out, Hl1.out, Hr1.out]
  have hsz := h.lst.size
  have HL := hid hsz
  have HBW := hid hBW
  clear h hsz hBW
  have a0 := ha.1
  have a1 := ha.2
  by_cases hA : after < 0 ∨ 1099511627776 < after
  · obtain rfl : 1 = C := by rw [← HC.out]; exact (setC_arg hA).symm
    obtain rfl : last = l1 := by rw [← Hl1.out]; rfl
    obtain rfl : 0 = r1 := by rw [← Hr1.out]; rfl
    have HLL : Hid (L = L') := by rw [← HL'.out]; unfold Hid setL; rw [setC_arg hA]; rfl
    obtain ⟨hq, Hq⟩ : ∃ q : Bool, q = decide (after < 0) := ⟨_, rfl⟩
    by_cases h0 : after < 0
    · clear hA HC HL' Hl1 Hr1 HL Hq hq
      go_enter Try.func16, Try.ntmps16
      go_wp2_with fail
      with_reducible refine hLa.mono ?_
      rintro e w1 ⟨rfl, H1⟩
      clear hLa
      have HF : Hid (RwO W B T' last L' w1) := ⟨⟨a, len, cap, by rw [← HLL.out]; exact H1.out.1⟩, H1.out.2.1⟩
      clear H1 HLL
      go_wp2_with fail
      go_ret2
      exact ⟨rfl, HF⟩
    · have h1 : 1099511627776 < after := by omega
      clear hA HC HL' Hl1 Hr1 HL Hq hq
      go_enter Try.func16, Try.ntmps16
      go_wp2_with fail
      with_reducible refine hLa.mono ?_
      rintro e w1 ⟨rfl, H1⟩
      clear hLa
      have HF : Hid (RwO W B T' last L' w1) := ⟨⟨a, len, cap, by rw [← HLL.out]; exact H1.out.1⟩, H1.out.2.1⟩
      clear H1 HLL
      go_wp2_with fail
      go_ret2
      exact ⟨rfl, HF⟩
  · have h0 : ¬ after < 0 := by omega
    have h1 : ¬ 1099511627776 < after := by omega
    by_cases hM : 4096 ≤ L.length ∨ 2147483647 ≤ last
    · obtain rfl : 5 = C := by rw [← HC.out]; exact (setC_many hA hM).symm
      obtain rfl : last = l1 := by rw [← Hl1.out]; rfl
      obtain rfl : 0 = r1 := by rw [← Hr1.out]; rfl
      have HLL : Hid (L = L') := by rw [← HL'.out]; unfold Hid setL; rw [setC_many hA hM]; rfl
      rw [HL.out] at hM
      by_cases hm : 4096 ≤ len
      · have g1 : (4096 : Int) ≤ (len : Int) := by omega
        clear hA HC HL' Hl1 Hr1 HL hM
        go_enter Try.func16, Try.ntmps16
        go_wp2_with fail
        with_reducible refine hLa.mono ?_
        rintro e w1 ⟨rfl, H1⟩
        clear hLa
        obtain ⟨c0, c1, c2⟩ := H1.out.1.cells
        have hrm := H1.out.1.lst.room
        have hms := H1.out.1.lst.most
        have HF : Hid (RwO W B T' last L' w1) := ⟨⟨a, len, cap, by rw [← HLL.out]; exact H1.out.1⟩, H1.out.2.1⟩
        clear H1 HLL
        go_wp2_with fail
        go_ret2
        exact ⟨rfl, HF⟩
      · have g1 : ¬ (4096 : Int) ≤ (len : Int) := by omega
        have g2 : 2147483647 ≤ last := by omega
        clear hA HC HL' Hl1 Hr1 HL hM
        go_enter Try.func16, Try.ntmps16
        go_wp2_with fail
        with_reducible refine hLa.mono ?_
        rintro e w1 ⟨rfl, H1⟩
        clear hLa
        obtain ⟨c0, c1, c2⟩ := H1.out.1.cells
        have hrm := H1.out.1.lst.room
        have hms := H1.out.1.lst.most
        have HF : Hid (RwO W B T' last L' w1) := ⟨⟨a, len, cap, by rw [← HLL.out]; exact H1.out.1⟩, H1.out.2.1⟩
        clear H1 HLL
        go_wp2_with fail
        go_ret2
        exact ⟨rfl, HF⟩
    · obtain rfl : 0 = C := by rw [← HC.out]; exact (setC_ok hA hM).symm
      obtain rfl : last + 1 = l1 := by rw [← Hl1.out]; rfl
      obtain rfl : last + 1 = r1 := by rw [← Hr1.out]; rfl
      obtain ⟨du, Hdu⟩ : ∃ du, Hid (min (T' + after) 1099511627776 = du) := ⟨_, rfl⟩
      have HLL : Hid (insT ⟨last + 1, kind, label, du⟩ L = L') := by
        rw [← HL'.out]; unfold Hid setL newT; rw [setC_ok hA hM, if_pos rfl, Hdu.out]
      rw [HL.out] at hM
      have g1 : ¬ (4096 : Int) ≤ (len : Int) := by omega
      have g2 : ¬ 2147483647 ≤ last := by omega
      have hm1 : min (T' + after) 1099511627776 = du := Hdu.out
      have hdu0 : 0 ≤ du ∧ du ≤ 1099511627776 := by rw [← hm1]; omega
      have hm2 : (if T' + after ≤ 1099511627776 then T' + after else 1099511627776) = du := by rw [← hm1]; split <;> omega
      have hm3 : (if 1099511627776 < T' + after then 1099511627776 else T' + after) = du := by rw [← hm1]; split <;> omega
      have hm4 : (if T' + after < 1099511627776 then T' + after else 1099511627776) = du := by rw [← hm1]; split <;> omega
      have hwp : IntKind.i64.wrap (T' + after) = T' + after := by rw [IntKind.wrap_i64]; omega
      have hwl : IntKind.i64.wrap (last + 1) = last + 1 := by rw [IntKind.wrap_i64]; omega
      clear hA HC HL' Hl1 Hr1 hM
      go_enter Try.func16, Try.ntmps16
      go_wp2_with fail
      with_reducible refine hLa.mono ?_
      rintro e w1 ⟨rfl, H1⟩
      clear hLa
      obtain ⟨c0, c1, c2⟩ := H1.out.1.cells
      have f1 : w1.frozen? ⟨B, 1, none⟩ = false := frozen_of_row _ _ 1 _ _ H1.out.1.obj
      have hrm := H1.out.1.lst.room
      have hms := H1.out.1.lst.most
      obtain ⟨w2, hw2⟩ : ∃ w2, w2 = w1.setCell ⟨B, 1, none⟩ (.int .i64 (last + 1)) := ⟨_, rfl⟩
      have HR2 : Hid (RwAt w2 B T' (last + 1) a len cap L) := by rw [hw2]; exact H1.out.1.num _
      have HF2 : Hid (Fb (at1 B) W w2) := by rw [hw2]; exact H1.out.2.1.trans (Fb.set (F := at1 B) (p := ⟨B, 1, none⟩) rfl _) fun k hk => .inl hk
      clear H1
      go_wp2_with fail
      rw [← hw2]
      clear hw2 c0 c1 c2 f1
      obtain ⟨c0, c1, c2⟩ := HR2.out.cells
      have HK : Hid (∀ W' : World, Below w2.heap.size w2 W' → W'.cell? ⟨B, 0, none⟩ = some (.int .i64 T') ∧ W'.cell? ⟨B, 1, none⟩ = some (.int .i64 (last + 1)) ∧ W'.cell? ⟨B, 2, none⟩ = some (.slice a len cap)) := fun W' hb => (HR2.out.below hb).cells
      have d0 : w2.drew.cell? ⟨B, 0, none⟩ = some (.int .i64 T') := c0
      have d1 : w2.drew.cell? ⟨B, 1, none⟩ = some (.int .i64 (last + 1)) := c1
      have hz := HK.out (w2.alloc (.cells #[.int .i64 0, .int .i64 0, .int .u64 0, .int .i64 0] 49)) ((Below.refl _ _).alloc (Nat.le_refl _) _)
      obtain ⟨z0, z1, _⟩ := hz
      go_region
      obtain ⟨w3, hw3⟩ : ∃ w3, w3 = (w2.alloc (.cells #[.int .i64 (last + 1), .int .i64 kind, .int .u64 label, .int .i64 du] 49)).drew := ⟨_, rfl⟩
      have hb3 : Below w2.heap.size w2 w3 := by rw [hw3]; exact ((Below.refl _ _).alloc (Nat.le_refl _) _).drew
      have hx3 : w3.heap[w2.heap.size]? = some (.cells #[.int .i64 (last + 1), .int .i64 kind, .int .u64 label, .int .i64 du] 49 (0, 0)) := by rw [hw3]; exact heap_alloc_new w2 _
      rw [← hw3]
      clear hw3 z0 z1 d0 d1 c0 c1 c2
      obtain ⟨g, hg⟩ : ∃ g, w2.heap.size = g := ⟨_, rfl⟩
      rw [hg] at hx3
      have HK3 : Hid (∀ W' : World, Below w3.heap.size w3 W' → RwAt W' B T' (last + 1) a len cap L ∧ W'.cell? ⟨g, 0, none⟩ = some (.int .i64 (last + 1)) ∧ W'.cell? ⟨g, 1, none⟩ = some (.int .i64 kind) ∧ W'.cell? ⟨g, 2, none⟩ = some (.int .u64 label) ∧ W'.cell? ⟨g, 3, none⟩ = some (.int .i64 du)) := fun W' hb => by
        have e := block_bel hx3 hb
        refine ⟨HR2.out.below (hb3.trans (hb.mono hb3.size)), ?_, ?_, ?_, ?_⟩ <;> (rw [cell_of_row _ _ _ _ _ _ e]; rfl)
      have HGb : Hid (∀ W' : World, Below w3.heap.size w3 W' → W'.heap[g]? = some (.cells #[.int .i64 (last + 1), .int .i64 kind, .int .u64 label, .int .i64 du] 49 (0, 0))) := fun W' hb => block_bel hx3 hb
      have HF3 : Hid (Fb (at1 B) W w3) := HF2.out.below hb3
      have hfw := HR2.out.few
      clear HK HR2 HF2 hb3 hx3
      rw [hg]
      clear hg hm1 hm2 hm3 hm4 hwp hwl Hdu
      go_wp2_with fail
      go_loopw [13] (fun z W' => ∃ i : Nat, i ≤ len ∧ z = .int .i64 i ∧ Hid ((∀ x ∈ L.take i, dueB du x = true) ∧ Below w3.heap.size w3 W')) (fun z _ => len - (intOf z).toNat)
      case atStart => exact ⟨0, Nat.zero_le _, rfl, by simp, Below.refl _ _⟩
      case round =>
      obtain ⟨i, hi, rfl, HR⟩ := hrel
      rename World => wr
      have HRd : Hid (Below w3.heap.size w3 wr.drew) := HR.out.2.drew
      have fin : (∀ x, L[i]? = some x → dueB du x = false) → L.takeWhile (dueB du) = L.take i ∧ L.dropWhile (dueB du) = L.drop i := fun hn => tw_at HR.out.1 hn (by rw [HL.out]; omega)
      obtain ⟨c0, c1, c2⟩ := (HK3.out wr.drew HRd.out).1.cells
      obtain ⟨_, x0, x1, x2, x3⟩ := HK3.out wr.drew HRd.out
      obtain ⟨bb, Hbb⟩ : ∃ bb : Bool, Hid (bb = (decide (i < len) && dueB du (tk L i))) := ⟨_, rfl⟩
      go_upto_region 9 with fail
      go_cut [76] (fun v wx => v = .bool bb ∧ wx = wr.drew)
      case first =>
        clear fin HR HF3 HBW HLL
        by_cases hin : i < len
        · have g3 : (i : Int) < (len : Int) := by omega
          obtain ⟨b0, off, rfl, hc⟩ := (HK3.out wr.drew HRd.out).1.lst.cell i hin
          obtain ⟨x, Hx⟩ : ∃ x, Hid (tk L i = x) := ⟨_, rfl⟩
          rw [Hx.out] at hc
          obtain ⟨e0, e1, e2, e3⟩ := hc
          have hg : decide ((i : Int) < (len : Int)) = true := decide_eq_true g3
          by_cases hd : x.due ≤ du
          · have HB : Hid (bb = true) := by unfold Hid; rw [Hbb.out, Hx.out]; simp [dueB, hin, hd]
            have hdd : decide (x.due ≤ du) = true := decide_eq_true hd
            clear HK3 HL HRd Hbb Hx
            go_region
            all_goals
              go_wp2_with fail
              go_meet
              exact ⟨by rw [HB.out], rfl⟩
          · have HB : Hid (bb = false) := by unfold Hid; rw [Hbb.out, Hx.out]; simp [dueB]; omega
            have hdd : decide (x.due ≤ du) = false := decide_eq_false hd
            clear HK3 HL HRd Hbb Hx
            go_region
            all_goals
              go_wp2_with fail
              go_meet
              exact ⟨by rw [HB.out], rfl⟩
        · have g3 : ¬ (i : Int) < (len : Int) := by omega
          have hg : decide ((i : Int) < (len : Int)) = false := decide_eq_false g3
          have HB : Hid (bb = false) := by unfold Hid; rw [Hbb.out]; simp [hin]
          clear HK3 HL HRd Hbb
          go_region
          all_goals
            go_wp2_with fail
            go_meet
            exact ⟨by rw [HB.out], rfl⟩
      case rest =>
      obtain ⟨rfl, hw⟩ := hcut
      subst hw
      cases bb with
      | true =>
        have hb := Hbb.out.symm
        simp only [Bool.and_eq_true, decide_eq_true_eq] at hb
        have hil : i < L.length := by rw [HL.out]; exact hb.1
        have HN : Hid (∀ x ∈ L.take (i + 1), dueB du x = true) := fun x hx => by
          rw [take_tk hil] at hx
          rcases List.mem_append.1 hx with hx | hx
          · exact HR.out.1 x hx
          · rw [List.mem_singleton.1 hx]; exact hb.2
        have hi1 : i + 1 ≤ len := hb.1
        clear fin HR HK3 HL Hbb hb hil HF3 HBW HLL c0 c1 c2 x0 x1 x2 x3
        go_wp2_with fail
        go_round
        case rel => exact ⟨i + 1, hi1, by go_num, HN.out, HRd.out⟩
        case measure => simp [intOf]; omega
      | false =>
        have hb := Hbb.out.symm
        obtain ⟨q1, q2⟩ := fin (fun x hx => by
          have hil : i < len := by rw [← HL.out]; exact (List.getElem?_eq_some_iff.1 hx).1
          rw [tk_get (by rw [HL.out]; exact hil)] at hx
          obtain rfl := Option.some.inj hx
          simpa [hil] using hb)
        have HLI : Hid (L' = L.take i ++ ⟨last + 1, kind, label, du⟩ :: L.drop i) := by
          rw [← HLL.out]; unfold Hid insT; rw [q1, q2]
        have HRe : Hid (Below w3.heap.size w3 wr.drew.drew) := HRd.out.drew
        clear fin q1 q2 Hbb hb HLL HR
        obtain ⟨ad, rfl⟩ := Hn.out
        have HRw := hid (HK3.out _ HRe.out).1
        obtain ⟨hs, _⟩ := HRw.out.lst.ty ad rfl
        obtain ⟨b, off, sp⟩ := ad
        simp only at hs
        subst hs
        obtain ⟨A, hA⟩ : ∃ A, (if cap = i then some (⟨b, off, none⟩ : Addr) else some ⟨b, off + i * 4, none⟩) = A := ⟨_, rfl⟩
        have HAd : Hid (∀ W', TsAt 49 W' (some ⟨b, off, none⟩) len cap L → TsAt 49 W' A (len - i) (cap - i) (L.drop i)) := fun W' h => by rw [← hA]; exact h.drop hi
        obtain ⟨va1, wa1, va2, wa3, va3, wa4, ea1, ea2, ea3, qa, ba1, ba3⟩ := rset_a HRw.out hi ⟨last + 1, kind, label, du⟩ HAd.out 25
        obtain ⟨vb1, wb2, vb2, wb3, vb3, wb4, eb1, eb2, eb3, qb, bb2, bb3⟩ := rset_b HRw.out hi ⟨last + 1, kind, label, du⟩ HAd.out 25
        have HSa : Hid (RwO W B T' (last + 1) L' (wa4.setCell ⟨B, 2, none⟩ va3)) := by
          have h := qa.out HRw.out (by omega)
          rw [← HLI.out] at h
          exact ⟨h.1, (HF3.out.below HRe.out).trans h.2 fun k hk => .inl hk⟩
        have HSb : Hid (RwO W B T' (last + 1) L' (wb4.setCell ⟨B, 2, none⟩ vb3)) := by
          have h := qb.out HRw.out (by omega)
          rw [← HLI.out] at h
          exact ⟨h.1, (HF3.out.below HRe.out).trans h.2 fun k hk => .inl hk⟩
        obtain ⟨pa, ca, hva, _⟩ := qa.sl
        obtain ⟨pb, cb, hvb, _⟩ := qb.sl
        subst hva
        subst hvb
        have HCx : Hid (∀ W', Below wr.drew.drew.heap.size wr.drew.drew W' → W'.cell? ⟨B, 2, none⟩ = some (.slice (some ⟨b, off, none⟩) len cap) ∧ W'.cell? ⟨B, 1, none⟩ = some (.int .i64 (last + 1)) ∧ W'.frozen? ⟨B, 2, none⟩ = false) := fun W' hb => ⟨(HRw.out.below hb).cells.2.2, (HRw.out.below hb).cells.2.1, frozen_of_row _ _ 2 _ _ (HRw.out.below hb).obj⟩
        obtain ⟨k0, _, _⟩ := HCx.out _ (Below.refl _ _)
        obtain ⟨ka1, _, _⟩ := HCx.out _ ba1
        obtain ⟨ka2, _, _⟩ := HCx.out _ (ba1.alloc ba1.size (.cells #[.int .i64 (last + 1), .int .i64 kind, .int .u64 label, .int .i64 du] 49))
        obtain ⟨ka3, _, _⟩ := HCx.out _ ba3
        obtain ⟨ka4, ja4, fa4⟩ := HCx.out _ qa.bel
        obtain ⟨kb1, _, _⟩ := HCx.out _ ((Below.refl wr.drew.drew.heap.size wr.drew.drew).alloc (Nat.le_refl _) (.cells #[.int .i64 (last + 1), .int .i64 kind, .int .u64 label, .int .i64 du] 49))
        obtain ⟨kb2, _, _⟩ := HCx.out _ bb2
        obtain ⟨kb3, _, _⟩ := HCx.out _ bb3
        obtain ⟨kb4, jb4, fb4⟩ := HCx.out _ qb.bel
        obtain ⟨_, x0, x1, x2, x3⟩ := HK3.out _ HRe.out
        obtain ⟨_, y0, y1, y2, y3⟩ := HK3.out _ (HRe.out.trans (ba1.mono HRe.out.size))
        have HKe : Hid (∀ W' : World, Below wr.drew.drew.heap.size wr.drew.drew W' → W'.cell? ⟨g, 0, none⟩ = some (.int .i64 (last + 1)) ∧ W'.cell? ⟨g, 1, none⟩ = some (.int .i64 kind) ∧ W'.cell? ⟨g, 2, none⟩ = some (.int .u64 label) ∧ W'.cell? ⟨g, 3, none⟩ = some (.int .i64 du)) := fun W' hb => (HK3.out W' (HRe.out.trans (hb.mono HRe.out.size))).2
        have HBa1 := hid ba1
        have HBa2 := hid (ba1.alloc ba1.size (.cells #[.int .i64 (last + 1), .int .i64 kind, .int .u64 label, .int .i64 du] 49))
        have HBa3 := hid ba3
        have HBa4 := hid qa.bel
        have HBb1 : Hid (Below wr.drew.drew.heap.size wr.drew.drew (wr.drew.drew.alloc (.cells #[.int .i64 (last + 1), .int .i64 kind, .int .u64 label, .int .i64 du] 49))) := (Below.refl _ _).alloc (Nat.le_refl _) _
        have HKb1 := HKe.out _ HBb1.out
        have HKb1 : Hid ((wr.alloc (.cells #[.int .i64 (last + 1), .int .i64 kind, .int .u64 label, .int .i64 du] 49)).drew.drew.cell? ⟨g, 0, none⟩ = some (.int .i64 (last + 1)) ∧ (wr.alloc (.cells #[.int .i64 (last + 1), .int .i64 kind, .int .u64 label, .int .i64 du] 49)).drew.drew.cell? ⟨g, 1, none⟩ = some (.int .i64 kind) ∧ (wr.alloc (.cells #[.int .i64 (last + 1), .int .i64 kind, .int .u64 label, .int .i64 du] 49)).drew.drew.cell? ⟨g, 2, none⟩ = some (.int .u64 label) ∧ (wr.alloc (.cells #[.int .i64 (last + 1), .int .i64 kind, .int .u64 label, .int .i64 du] 49)).drew.drew.cell? ⟨g, 3, none⟩ = some (.int .i64 du)) := HKb1
        have HBb2 := hid bb2
        have HBb3 := hid bb3
        have HBb4 := hid qb.bel
        have hgB : g ≠ B := fun e => by
          have h1 := HRw.out.obj
          have h2 := (HKe.out _ (Below.refl _ _)).1
          rw [e, cell_of_row _ _ _ _ _ _ h1] at h2
          have h3 := HGb.out _ HRe.out
          rw [e, h1] at h3
          simp at h3
        have hst : ∀ (w4 : World) (v : Value), (∀ j, (w4.setCell ⟨B, 2, none⟩ v).cell? ⟨g, j, none⟩ = w4.cell? ⟨g, j, none⟩) := fun w4 v j => World.cell?_setCell_far w4 ⟨B, 2, none⟩ ⟨g, j, none⟩ v fun e => hgB e.symm
        have HKs4 : Hid ((wa4.setCell ⟨B, 2, none⟩ (.slice pa (len + 1) ca)).cell? ⟨g, 0, none⟩ = some (.int .i64 (last + 1)) ∧ (wa4.setCell ⟨B, 2, none⟩ (.slice pa (len + 1) ca)).cell? ⟨g, 1, none⟩ = some (.int .i64 kind) ∧ (wa4.setCell ⟨B, 2, none⟩ (.slice pa (len + 1) ca)).cell? ⟨g, 2, none⟩ = some (.int .u64 label) ∧ (wa4.setCell ⟨B, 2, none⟩ (.slice pa (len + 1) ca)).cell? ⟨g, 3, none⟩ = some (.int .i64 du)) := by unfold Hid; rw [hst, hst, hst, hst]; exact HKe.out _ qa.bel
        have HKt4 : Hid ((wb4.setCell ⟨B, 2, none⟩ (.slice pb (len + 1) cb)).cell? ⟨g, 0, none⟩ = some (.int .i64 (last + 1)) ∧ (wb4.setCell ⟨B, 2, none⟩ (.slice pb (len + 1) cb)).cell? ⟨g, 1, none⟩ = some (.int .i64 kind) ∧ (wb4.setCell ⟨B, 2, none⟩ (.slice pb (len + 1) cb)).cell? ⟨g, 2, none⟩ = some (.int .u64 label) ∧ (wb4.setCell ⟨B, 2, none⟩ (.slice pb (len + 1) cb)).cell? ⟨g, 3, none⟩ = some (.int .i64 du)) := by unfold Hid; rw [hst, hst, hst, hst]; exact HKe.out _ qb.bel
        clear hst
        have HA1 := hid ea1
        have HA2 := hid ea2
        have HA3 := hid ea3
        have HB1 : Hid ((Builtin.append_ #[25, 25] 25 #[.slice none 0 0, .slice (some ⟨b, off, none⟩) i cap]).run Try.prog (wr.alloc (.cells #[.int .i64 (last + 1), .int .i64 kind, .int .u64 label, .int .i64 du] 49)).drew.drew = .ok vb1 wb2) := eb1
        have kb1' : (wr.alloc (.cells #[.int .i64 (last + 1), .int .i64 kind, .int .u64 label, .int .i64 du] 49)).cell? ⟨B, 2, none⟩ = some (.slice (some ⟨b, off, none⟩) len cap) := kb1
        have HB2 : Hid ((Builtin.append_ #[25, 25] 25 #[vb1, .slice (some ⟨wr.heap.size, 0, none⟩) 1 1]).run Try.prog wb2 = .ok vb2 wb3) := eb2
        have HB3 := hid eb3
        have p3 : i ≤ cap := by omega
        simp only at HA2
        clear HLI HRe HRw HAd HCx HK3 HF3 HGb qa qb ba1 ba3 bb2 bb3 ea1 ea2 ea3 eb1 eb2 eb3 HL HBW HRd
        go_wp2_with fail
        go_region_law (first
          | (refine stepApp (by rfl) 86 (by rfl) (.const (.slice none 0 0)) (.tmp 85) 25 (by rfl) _ _ _ _ (by first | rfl | (simp [Act.eval]; done) | (simp [Act.eval, Act.put]; done)) (by first | (simp [Act.eval]; done) | (simp [Act.eval, Act.put]; done)) HA1.out ?_)
          | (refine stepApp (by rfl) 86 (by rfl) (.const (.slice none 0 0)) (.tmp 85) 25 (by rfl) _ _ _ _ (by first | rfl | (simp [Act.eval]; done) | (simp [Act.eval, Act.put]; done)) (by first | (simp [Act.eval]; done) | (simp [Act.eval, Act.put]; done)) HB1.out ?_)
          | (refine stepApp (by rfl) 89 (by rfl) (.tmp 86) (.tmp 88) 25 (by rfl) _ _ _ _ (by first | (simp [Act.eval]; done) | (simp [Act.eval, Act.put]; done)) (by first | (simp [Act.eval]; done) | (simp [Act.eval, Act.put]; done)) HA2.out ?_)
          | (refine stepApp (by rfl) 89 (by rfl) (.tmp 86) (.tmp 88) 25 (by rfl) _ _ _ _ (by first | (simp [Act.eval]; done) | (simp [Act.eval, Act.put]; done)) (by first | (simp [Act.eval]; done) | (simp [Act.eval, Act.put]; done)) HB2.out ?_)
          | (refine stepApp (by rfl) 96 (by rfl) (.tmp 89) (.tmp 95) 25 (by rfl) _ _ _ _ (by first | (simp [Act.eval]; done) | (simp [Act.eval, Act.put]; done)) (by first | (simp [Act.eval]; done) | (simp [Act.eval, Act.put]; done)) HA3.out ?_)
          | (refine stepApp (by rfl) 96 (by rfl) (.tmp 89) (.tmp 95) 25 (by rfl) _ _ _ _ (by first | (simp [Act.eval]; done) | (simp [Act.eval, Act.put]; done)) (by first | (simp [Act.eval]; done) | (simp [Act.eval, Act.put]; done)) HB3.out ?_)
          )
        all_goals
          go_wp2_with fail
          go_ret2
          first | exact ⟨rfl, HSa⟩ | exact ⟨rfl, HSb⟩
end Go.Proofs.Ytdfbnfgemjljgaa
