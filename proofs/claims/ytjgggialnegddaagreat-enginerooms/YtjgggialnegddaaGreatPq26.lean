/-
  The texts De2 of this proof.
-/
import Derived.Test.YtjgggialnegddaaGreatPq25
import Derived.Deep.RegionHeld3
set_option linter.unusedVariables false
set_option maxRecDepth 1000000
namespace Go.Proofs.YtjgggialnegddaaGreat
open Go.RowKit
theorem step_append_full {P : Program} {w : World} {ops : Array Oper} {o : Oper} {a : Act} {K : Act → World → Prop} {Q : Exit → Act → World → Prop} {E : Prop} (hgd : o.guard = none) (d : Tmp) (hd : o.dst = some d) (s x : Operand) (t : TypeId)
  (ho : o.op = .call { callee := .builtin .append, args := #[s, x], argTypes := #[t, t] })
  (e : TypeId) (i : TypeInfo) (z : Value) (bytes : Nat) (ht : P.underlying t = some (.slice e)) (hi : P.info? e = some i) (hz : i.zero = some z) (hsize : i.size = 1) (hby : i.bytes = bytes) (hzs : z.cells.size = 1) (hbt : bytes ≤ 24)
  (ao : Option Addr) (n : Nat) (olds : List Value) (hs : a.eval s = .slice ao n n) (hnone : ao = none → n = 0) (hlo : olds.length = n) (holds : ∀ b, ao = some b → ∀ j u, olds[j]? = some u → w.cell? (b.add j) = some u) (hn : n ≤ 100000)
  (B : Nat) (u : Value) (h1 : u.oneCell' = true) (hx : a.eval x = .slice (some ⟨B, 0, none⟩) 1 1) (hc : w.cell? ⟨B, 0, none⟩ = some u)
  (h : ∀ g c w', w'.ownsRow w.heap.size e 1 (.slice (some ⟨g, 0, none⟩) (n + 1) c) (n + 1) (olds ++ [u]) → Below w.heap.size w w' → K (a.put (some d) (.slice (some ⟨g, 0, none⟩) (n + 1) c)) w') :
  if Region.wanted o (yielded ops a.tmps) = true then Oper.wp P o a w K Q else E := by
 have hw : Region.wanted o (yielded ops a.tmps) = true := by simp [Region.wanted, hgd]
 rw [if_pos hw]
 have hnews : ∀ j y, [u][j]? = some y → w.cell? ((⟨B, 0, none⟩ : Addr).add j) = some y := by
  intro j y hy
  rcases j with _ | j
  ·simp at hy
   rw [Addr.add_lit, Nat.zero_add, hc, hy]
  ·simp at hy
 have hone : ∀ y ∈ [u], y.oneCell' = true := by
  intro y hy
  simp at hy
  subst hy
  exact h1
 have hbytes : (n + 1) * bytes ≤ 140737488355328 := by have : (n + 1) * bytes ≤ (n + 1) * 24 := Nat.mul_le_mul_left _ hbt; omega
 have key : ∃ v' w', (Builtin.append_ #[t, t] o.type #[.slice ao n n, .slice (some ⟨B, 0, none⟩) 1 1]).run P w = .ok v' w' ∧ w'.ownsRow w.heap.size e 1 v' (n + 1) (olds ++ [u]) ∧ w.grownBy w' none := by
  cases ao with
  | some b => exact run_append_arg_grows (P := P) w t o.type e i z 1 bytes ht hi hz hsize hby hzs (by decide) b n n olds (by omega) (holds b rfl) ⟨B, 0, none⟩ 1 1 [u] rfl hnews (by omega) (by unfold maxLen; omega) hbytes
  | none =>
   obtain rfl := hnone rfl
   obtain rfl : olds = [] := List.eq_nil_of_length_eq_zero hlo
   obtain ⟨v', w', hrun, r1, r2, _⟩ := run_append_own (P := P) w w.heap.size t o.type e i z 1 bytes ht hi hz hsize hby hzs (by decide) (.slice none 0 0) 0 [] (World.ownsRow_nil w _ e 1) ⟨B, 0, none⟩ 1 1 [u] rfl hnews hone (by unfold maxLen; omega) hbytes (Nat.le_refl _)
   exact ⟨v', w', hrun, r1, r2⟩
 obtain ⟨v', w', hr, h2, h3⟩ := key
 obtain ⟨g, c, rfl⟩ : ∃ g c, v' = .slice (some ⟨g, 0, none⟩) (n + 1) c := by
  rcases id h2.2 with ⟨_, h0⟩ | ⟨g, cap, cur, rfl, rest⟩
  ·omega
  ·exact ⟨g, cap, rfl⟩
 unfold Oper.wp execOp
 simp only [ho, resolve, invoke, builtin, Sem.run_bind, Sem.run_pure, Result.andThen_ok, List.map_toArray, List.map_cons, List.map_nil, hs, hx, hr]
 show K (a.put o.dst _) w'
 rw [hd]
 exact h g c w' h2 (below_grown h3)
theorem cell_new1 (W : World) (u : Value) (T : TypeId) : (W.alloc (.cells #[u] T)).cell? ⟨W.heap.size, 0, none⟩ = some u := by
 rw [cell_of_row _ _ _ _ _ _ (heap_alloc_new W (.cells #[u] T))]; rfl
theorem cell_new2 (W : World) (u v : Value) (T T2 : TypeId) : ((W.alloc (.cells #[u] T)).alloc (.cells #[v] T2)).cell? ⟨W.heap.size, 0, none⟩ = some u :=
 cell_later_of (cell_new1 W u T) ((Below.refl _ _).alloc (Nat.le_refl _) _)
theorem cell_new3 (W : World) (u v : Value) (T T2 : TypeId) : ((W.alloc (.cells #[u] T)).alloc (.cells #[v] T2)).cell? ⟨W.heap.size + 1, 0, none⟩ = some v := by
 have := cell_new1 (W.alloc (.cells #[u] T)) v T2
 rwa [World.size_alloc] at this
theorem cell_new1d (W : World) (u : Value) (T : TypeId) : (W.alloc (.cells #[u] T)).drew.cell? ⟨W.heap.size, 0, none⟩ = some u := cell_new1 W u T
theorem cell_new2d (W : World) (u v : Value) (T T2 : TypeId) : ((W.alloc (.cells #[u] T)).alloc (.cells #[v] T2)).drew.cell? ⟨W.heap.size, 0, none⟩ = some u := cell_new2 W u v T T2
theorem cell_new3d (W : World) (u v : Value) (T T2 : TypeId) : ((W.alloc (.cells #[u] T)).alloc (.cells #[v] T2)).drew.cell? ⟨W.heap.size + 1, 0, none⟩ = some v := cell_new3 W u v T T2
theorem olds_ints {w : World} {a : Option Addr} {n cap : Nat} {xs : List Int} (h : Reads .i64 w a n cap xs) : ∀ b, a = some b → ∀ j u, (xs.map (Value.int .i64))[j]? = some u → w.cell? (b.add j) = some u := by
 intro b hb
 subst hb
 exact h.news
theorem with_end {w W : World} {g : Nat} {pm ta : Option Addr} {tc : Nat} {ha : Option Addr} {hc : Nat} {pq : Option Addr} {c : Cf} {ts : List Int} {hs : List Hd} {n : Nat} {t : Int} (h : StIn w g pm ta tc ha hc pq c ts) (hn : ts.length = n) (hb : Below w.heap.size w W)
  (ht : Tbl w ha n hc hs (outsL c ts)) (hI : ∀ i, i < n → BlI w (hs[i]?.getD (none, 0, 0)).1)
  {a4 : Option Addr} {n4 c4 B4 : Nat} (r4 : Reads .i64 W a4 n4 c4 (outK c (ts ++ [t]) (n + 1))) (i4 : BlI W a4) (q4 : n4 ≤ 1000) (m4 : MemAt W (some ⟨B4, 0, none⟩) (memL c c.layers.toNat (tvsL c (ts ++ [t])) (n + 1)))
  {b1 g1 e1 b2 g2 e2 : Nat} (o1 : W.ownsRow b1 3 1 (.slice (some ⟨g1, 0, none⟩) (n + 1) e1) (n + 1) (ts.map (Value.int .i64) ++ [.int .i64 t])) (l1 : w.heap.size ≤ b1)
  (o2 : W.ownsRow b2 131 1 (.slice (some ⟨g2, 0, none⟩) (n + 1) e2) (n + 1) (hs.map hdV ++ [hdV (a4, n4, c4)])) :
  GivesW w pm c (ts ++ [t]) (.returned (.pointer (some ⟨W.heap.size, 0, none⟩))) (W.alloc (.cells #[.pointer pm, .slice (some ⟨g1, 0, none⟩) (n + 1) e1, .slice (some ⟨g2, 0, none⟩) (n + 1) e2, .pointer (some ⟨B4, 0, none⟩)] 181)) := by
 have hA : Below W.heap.size W (W.alloc (.cells #[.pointer pm, .slice (some ⟨g1, 0, none⟩) (n + 1) e1, .slice (some ⟨g2, 0, none⟩) (n + 1) e2, .pointer (some ⟨B4, 0, none⟩)] 181)) := (Below.refl _ _).alloc (Nat.le_refl _) _
 have hlen : (ts ++ [t]).length = n + 1 := by simp [hn]
 have o1' : W.ownsRow b1 3 1 (.slice (some ⟨g1, 0, none⟩) (n + 1) e1) (n + 1) ((ts ++ [t]).map (Value.int .i64)) := by rw [List.map_append]; exact o1
 have o2' : OwnS b2 g2 (n + 1) e2 (hs ++ [(a4, n4, c4)]) W := by unfold OwnS; rw [List.map_append]; exact o2
 obtain ⟨a', c', e', hr⟩ := Reads.own (k := .i64) o1'
 cases e'
 have hl : (outsL c ts).length = n := by rw [outsL_len, hn]
 refine ⟨W.heap.size, some ⟨g1, 0, none⟩, e1, some ⟨g2, 0, none⟩, e2, some ⟨B4, 0, none⟩, rfl, ⟨?_, ?_, ?_, ?_, ?_, ?_⟩, ?_, hb.alloc hb.size _⟩
 ·rw [hlen]; exact heap_alloc_new W _
 ·exact (h.md.below hb).below hA
 ·rw [hlen]; exact hr.below hA
 ·rw [hlen, ← outsL_snoc, hn]
  refine TbH.below ⟨by simp only [List.length_append, List.length_singleton, hl], hs ++ [(a4, n4, c4)], Tbl.snoc (b := ha) (ht.below hb) hl r4 q4 o2'.rd, BlS.own o2', fun i hi => bli_snoc ht.rd.size (fun j hj => (hI j hj).below hb) i4 hi⟩ hA
 ·rw [hlen]; exact m4.below hA
 ·intro p hp
  cases hp
  obtain ⟨cur, hcur⟩ := own_type o1 (o := g1) rfl
  exact ⟨cur, _, block_below hcur hA⟩
 ·rintro k ⟨a, e, rfl⟩
  cases e
  exact Nat.le_trans l1 (World.ownsRow.lt o1 g1 rfl).1
set_option maxHeartbeats 4000000 in
theorem dwith_any {w : World} {g : Nat} {pm ta : Option Addr} {tc : Nat} {ha : Option Addr} {hc : Nat} {pq : Option Addr} {c : Cf} {ts : List Int} (h : StIn w g pm ta tc ha hc pq c ts) (hm : mayB c = true) (hl : ts.length ≤ 255) (t : Int) :
  Calls Tryz.prog 109 #[.pointer (some ⟨g, 0, none⟩), .int .i64 t] w fun e w' => GivesW w pm c (ts ++ [t]) e w' := by
 obtain ⟨i0, hi, hz0, hz1, hz2⟩ := info_parts Tryz.info3
 obtain ⟨j0, hj, hy0, hy1, hy2⟩ := info_parts Tryz.infoS
 obtain ⟨n, hn⟩ : ∃ n, ts.length = n := ⟨_, rfl⟩
 have HK := hid fun (W : World) (hb : Below w.heap.size w W) => (h.below hb).cells
 obtain ⟨hl1, hs, hT, hBs, hBi⟩ := h.mks
 simp only at hl1 hT hBs hBi
 have HTk := hid fun (W : World) (hb : Below w.heap.size w W) => token_g pm c t W (h.md.below hb) hm
 have HPl := hid fun (W : World) (hb : Below w.heap.size w W) => place_g pm c (n : Int) W (h.md.below hb) hm
 have hT16 := tokL_len hm t
 have hP16 := plL_len hm (n : Int)
 have hVe : pairK addZ (tokL c t) (plL c (n : Int)) (min (tokL c t).length (plL c (n : Int)).length) = (tvsL c (ts ++ [t]))[n]?.getD [] := by
  rw [tvsL_at c (ts ++ [t]) (by simp; omega)]
  unfold tvL
  rw [List.getElem?_append_right (by omega), hn, Nat.sub_self]
  rfl
 have HAd := hid fun a1 c1 a2 c2 W (h1 : Reads .i64 W a1 (tokL c t).length c1 (tokL c t)) (h2 : Reads .i64 W a2 (plL c (n : Int)).length c2 (plL c (n : Int))) => vadd_any a1 a2 (tokL c t).length c1 (plL c (n : Int)).length c2 _ _ W h1 h2 (by omega) (by omega)
 rw [hVe] at HAd
 have HMm : Hid (∀ W : World, Below w.heap.size w W → MemAt W pq (memL c c.layers.toNat (tvsL c (ts ++ [t])) n)) := fun W hb => by
  rw [memL_app c _ ts [t] (by omega)]
  have := h.mem.below hb
  rwa [hn] at this
 have HTh := hid fun a' n' c' W (hb : Below w.heap.size w W) (hx : Reads .i64 W a' n' c' ((tvsL c (ts ++ [t]))[n]?.getD [])) (hn' : n' ≤ 1000) => through_mem pm c pq (tvsL c (ts ++ [t])) n a' n' c' W (h.md.below hb) hm (HMm.out W hb) (by omega) hx hn'
 have HO16 := hid (outK_len hm (ts ++ [t]) (n + 1))
 have HE := hid fun W a4 n4 c4 B4 b1 g1 e1 b2 g2 e2 hb r4 i4 q4 m4 o1 l1 o2 => @with_end w W g pm ta tc ha hc pq c ts hs n t h hn hb (by rw [← hn]; exact hT) (by rw [← hn]; exact hBi) a4 n4 c4 B4 r4 i4 q4 m4 b1 g1 e1 b2 g2 e2 o1 l1 o2
 have HO1 := hid fun (W : World) (hb : Below w.heap.size w W) => olds_ints (h.tk.below hb)
 have HO2 := hid fun (W : World) (hb : Below w.heap.size w W) => olds_at (hT.rd.below hb)
 have HN1 : Hid (ta = none → n = 0) := fun e => by have := h.tk.bare e; omega
 have HN2 : Hid (ha = none → n = 0) := fun e => by have := hT.rd.bare e; omega
 have HL1 : Hid ((ts.map (Value.int .i64)).length = n) := by unfold Hid; simp [hn]
 have HL2 : Hid ((hs.map hdV).length = n) := by unfold Hid; simp [hT.rd.size, hn]
 have r1 := h.tk.room
 have m1 := h.tk.most
 have r2 := hT.rd.room
 have m2 := hT.rd.most
 rw [hn] at HK r1 r2 hl
 have hX : madeL c c.layers.toNat (tvsL c (ts ++ [t])) n = outK c (ts ++ [t]) (n + 1) := rfl
 rw [hX] at HTh
 have HX := hid hX
 clear h hm hT hBs hBi hl1 hVe HMm hX hn HX
 generalize (tokL c t).length = n1 at *
 generalize (plL c (n : Int)).length = n2 at *
 generalize tokL c t = xs at *
 generalize plL c (n : Int) = ys at *
 generalize (tvsL c (ts ++ [t]))[n]?.getD [] = zs at *
 generalize memL c c.layers.toNat (tvsL c (ts ++ [t])) (n + 1) = MM at *
 generalize outK c (ts ++ [t]) (n + 1) = os at *
 obtain ⟨c0, c1, c2, c3⟩ := HK.out w (Below.refl _ _)
 have hn12 : min n1 n2 ≤ 1000 := by omega
 go_enter Tryz.func109, Tryz.ntmps109
 go_wp2_with fail
 have HV : Hid (Below w.heap.size w w.drew) := (Below.refl _ _).drew
 clear c0 c1 c2 c3
 go_region_held3 (fun W : World => W.cell? ⟨g, 0, none⟩ = some (.pointer pm) ∧ W.cell? ⟨g, 1, none⟩ = some (.slice ta n tc) ∧ W.cell? ⟨g, 2, none⟩ = some (.slice ha n hc) ∧ W.cell? ⟨g, 3, none⟩ = some (.pointer pq)) (first | (with_reducible exact HK.out _ (Below.refl _ _)) | (with_reducible exact HK.out _ HV.out))
  (first
   | (go_at_call 151; (with_reducible refine (HTk.out _ HV.out).mono ?_); rintro e y1 ⟨u1, rfl, ho, hb⟩; obtain ⟨p1, d1, rfl, hr1⟩ := Reads.own (k := .i64) ho; replace HV := hid (HV.out.trans (hb.mono HV.out.size)); have HR1 := hid hr1; clear hb ho hr1)
   | (go_at_call 152; (with_reducible refine (HPl.out _ HV.out).mono ?_); rintro e y2 ⟨u2, rfl, ho, hb⟩; obtain ⟨p2, d2, rfl, hr2⟩ := Reads.own (k := .i64) ho; replace HV := hid (HV.out.trans (hb.mono HV.out.size)); replace HR1 := hid (HR1.out.below hb); have HR2 := hid hr2; clear hb ho hr2)
   | (go_at_call 150; (with_reducible refine (HAd.out _ _ _ _ _ HR1.out HR2.out).mono ?_); rintro e y3 ⟨g3, d3, rfl, ho, hb⟩; replace HV := hid (HV.out.trans (hb.mono HV.out.size)); have HR3 := hid ho.reads; clear hb ho HR1 HR2))
 obtain ⟨c0, c1, c2, c3⟩ := HK.out _ HV.out
 go_wp2_with fail
 replace HV : Hid (Below w.heap.size w y3.drew) := HV.out.drew
 replace HR3 : Hid (Reads .i64 y3.drew (some ⟨g3, 0, none⟩) (min n1 n2) d3 zs) := HR3.out.below ((Below.refl _ _).drew)
 clear c0 c1 c2 c3 HTk HPl HAd
 go_region_held3 (fun W : World => W.cell? ⟨g, 0, none⟩ = some (.pointer pm) ∧ W.cell? ⟨g, 1, none⟩ = some (.slice ta n tc) ∧ W.cell? ⟨g, 2, none⟩ = some (.slice ha n hc) ∧ W.cell? ⟨g, 3, none⟩ = some (.pointer pq)) (first | (with_reducible exact HK.out _ HV.out) | (exact HK.out _ HV.out))
  (first
   | (go_at_call 153; (with_reducible refine (HTh.out _ _ _ _ HV.out HR3.out hn12).mono ?_); rintro e y4 ⟨a4, n4, d4, B4, g4, ps4, rfl, hr4, hi4, hm4, _, hb⟩; replace HV := hid (HV.out.trans (hb.mono HV.out.size)); have HR4 := hid hr4; have HI4 := hid hi4; have HM4 : Hid (MemAt y4 (some ⟨B4, 0, none⟩) MM) := .inr ⟨_, _, _, rfl, hm4⟩; clear hb hr4 hi4 hm4 HR3))
 obtain ⟨c0, c1, c2, c3⟩ := HK.out _ HV.out
 have HQ4 : Hid (n4 ≤ 1000) := by have := HR4.out.size; have := HO16.out; unfold Hid; omega
 go_wp2_with fail
 clear c0 c1 c2 c3 HTh HO16
 have HVd : Hid (Below w.heap.size w y4.drew) := HV.out.drew
 have HAd := hid fun (o : Obj) => (HV.out.alloc HV.out.size o).drew
 have HAa := hid fun (o o2 : Obj) => ((HV.out.alloc HV.out.size o).alloc (Nat.le_trans HV.out.size (by simp)) o2).drew
 have HYd := hid fun (o : Obj) => ((Below.refl y4.heap.size y4).alloc (Nat.le_refl _) o).drew
 have HYa := hid fun (o o2 : Obj) => (((Below.refl y4.heap.size y4).alloc (Nat.le_refl _) o).alloc (by simp) o2).drew
 have HAl : Hid (∀ (W : World) (o : Obj), Below W.heap.size W (W.alloc o)) := fun W o => (Below.refl _ _).alloc (Nat.le_refl _) _
 have HUa := hid fun (W : World) (hb : Below w.heap.size w W) (o : Obj) => hb.alloc hb.size o
 go_region_held3 (fun W : World => W.cell? ⟨g, 0, none⟩ = some (.pointer pm) ∧ W.cell? ⟨g, 1, none⟩ = some (.slice ta n tc) ∧ W.cell? ⟨g, 2, none⟩ = some (.slice ha n hc) ∧ W.cell? ⟨g, 3, none⟩ = some (.pointer pq)) (first | (with_reducible exact HK.out _ HVd.out) | (with_reducible exact HK.out _ (HAd.out _)) | (with_reducible exact HK.out _ (HAa.out _ _)) | (with_reducible exact HK.out _ HW2.out) | (with_reducible exact HK.out _ HW1.out) | (with_reducible exact HK.out _ (HUa.out _ HW1.out _)) | (with_reducible exact HK.out _ (HUa.out _ HW2.out _)))
  (first
   | (go_at_call 113; (with_reducible refine (firsti_any ta n tc n _ r1 m1).mono ?_); rintro e w' ⟨rfl, rfl⟩)
   | (go_at_call 114; (with_reducible refine (firstr_any ha n hc n _ r2 m2).mono ?_); rintro e w' ⟨rfl, rfl⟩)
   | (refine step_append_full (by rfl) 52 (by rfl) (.tmp 49) (.tmp 51) 41 (by rfl) 3 i0 (.int .i64 0) 8 Tryz.underlying41 hi hz0 hz1 hz2 rfl (by decide) ta n (ts.map (Value.int .i64)) (by rfl) HN1.out HL1.out (HO1.out _ (HAd.out _)) (by omega) _ (.int .i64 t) rfl (by rfl) (cell_new1d y4 _ _) ?_; intro g1 e1 W1 hO1 hb1; have HW1 := hid ((HAd.out _).trans (hb1.mono (HAd.out _).size)); have HP1 := hid (own_base hO1 (HAd.out _).size); have HS1 := hid ((HYd.out _).trans (hb1.mono (HYd.out _).size)); clear hO1 hb1)
   | (refine step_append_full (by rfl) 52 (by rfl) (.tmp 49) (.tmp 51) 41 (by rfl) 3 i0 (.int .i64 0) 8 Tryz.underlying41 hi hz0 hz1 hz2 rfl (by decide) ta n (ts.map (Value.int .i64)) (by rfl) HN1.out HL1.out (HO1.out _ (HAa.out _ _)) (by omega) _ (.int .i64 t) rfl (by rfl) (cell_new2d y4 _ _ _ _) ?_; intro g1 e1 W1 hO1 hb1; have HW1 := hid ((HAa.out _ _).trans (hb1.mono (HAa.out _ _).size)); have HP1 := hid (own_base hO1 (HAa.out _ _).size); have HS1 := hid ((HYa.out _ _).trans (hb1.mono (HYa.out _ _).size)); have HC2 := hid (cell_later_of (cell_new3d y4 (.int .i64 t) (.slice a4 n4 d4) _ _) hb1); clear hO1 hb1)
   | (refine step_append_full (by rfl) 52 (by rfl) (.tmp 49) (.tmp 51) 41 (by rfl) 3 i0 (.int .i64 0) 8 Tryz.underlying41 hi hz0 hz1 hz2 rfl (by decide) ta n (ts.map (Value.int .i64)) (by rfl) HN1.out HL1.out (HO1.out _ (HAa.out _ _)) (by omega) _ (.int .i64 t) rfl (by rfl) (cell_new3d y4 _ _ _ _) ?_; intro g1 e1 W1 hO1 hb1; have HW1 := hid ((HAa.out _ _).trans (hb1.mono (HAa.out _ _).size)); have HP1 := hid (own_base hO1 (HAa.out _ _).size); have HS1 := hid ((HYa.out _ _).trans (hb1.mono (HYa.out _ _).size)); have HC2 := hid (cell_later_of (cell_new2d y4 (.slice a4 n4 d4) (.int .i64 t) _ _) hb1); clear hO1 hb1)
   | (refine step_append_full (by rfl) 61 (by rfl) (.tmp 58) (.tmp 60) 132 (by rfl) 131 j0 (.slice none 0 0) 24 Tryz.underlying132 hj hy0 hy1 hy2 rfl (by decide) ha n (hs.map hdV) (by rfl) HN2.out HL2.out (HO2.out _ (HW1.out)) (by omega) _ (.slice a4 n4 d4) rfl (by rfl) (HC2.out) ?_; intro g2 e2 W2 hO2 hb2; have HW2 := hid ((HW1.out).trans (hb2.mono (HW1.out).size)); have HP2 := hid (own_base hO2 (HW1.out).size); replace HP1 := hid (own_below HP1.out hb2); replace HS1 := hid (HS1.out.trans (hb2.mono HS1.out.size)); clear hO2 hb2)
   | (refine step_append_full (by rfl) 61 (by rfl) (.tmp 58) (.tmp 60) 132 (by rfl) 131 j0 (.slice none 0 0) 24 Tryz.underlying132 hj hy0 hy1 hy2 rfl (by decide) ha n (hs.map hdV) (by rfl) HN2.out HL2.out (HO2.out _ (HUa.out _ HW1.out _)) (by omega) _ (.slice a4 n4 d4) rfl (by rfl) (cell_new1 W1 _ _) ?_; intro g2 e2 W2 hO2 hb2; have HW2 := hid ((HUa.out _ HW1.out _).trans (hb2.mono (HUa.out _ HW1.out _).size)); have HP2 := hid (own_base hO2 (HUa.out _ HW1.out _).size); replace HP1 := hid (own_below (own_below HP1.out (HAl.out _ _)) hb2); replace HS1 := hid ((HS1.out.trans ((HAl.out _ _).mono HS1.out.size)).trans (hb2.mono (Nat.le_trans HS1.out.size (HAl.out _ _).size))); clear hO2 hb2)
   | fail)
 all_goals
  have HF := hid (HE.out W2 a4 n4 d4 B4 _ g1 e1 _ g2 e2 HW2.out (HR4.out.below HS1.out) (HI4.out.below HS1.out) HQ4.out (HM4.out.below HS1.out) HP1.out (Nat.le_refl _) HP2.out)
  go_wp2_with fail
  go_ret
  exact HF.out
theorem cf_field3 (s v d l tt h : Int) (W : World) : (Instr.field 24 (.agg #[.int .u64 s, .int .i64 v, .int .i64 d, .int .i64 l, .int .i64 tt, .int .i64 h]) 3).run Tryz.prog W = .ok (.int .i64 l) W := by kernel_rfl
theorem st_empty {W : World} {p : Option Addr} {c : Cf} {L : Nat} (hL : c.layers.toNat = L) (hp : MdAt W p c) {B : Nat} (hm : MemAt W (some ⟨B, 0, none⟩) (noneM L)) :
  StIn (W.alloc (.cells #[.pointer p, .slice none 0 0, .slice none 0 0, .pointer (some ⟨B, 0, none⟩)] 181)) W.heap.size p none 0 none 0 (some ⟨B, 0, none⟩) c [] := by
 have hA : Below W.heap.size W (W.alloc (.cells #[.pointer p, .slice none 0 0, .slice none 0 0, .pointer (some ⟨B, 0, none⟩)] 181)) := (Below.refl _ _).alloc (Nat.le_refl _) _
 refine ⟨heap_alloc_new W _, hp.below hA, Reads.nil _ _, TbH.nil _, ?_, fun p hp => by cases hp⟩
 rw [hL]
 exact hm.below hA
set_option maxHeartbeats 1000000 in
theorem dnew_yes (p : Option Addr) (c : Cf) (w : World) (hp : MdAt w p c) (hc : mayB c = true) :
  Calls Tryz.prog 106 #[.pointer p] w fun e w' => GivesS w (mF p) c [0] e w' := by
 have hI := ismodel_any p c w hp
 rw [hc] at hI
 have HC := hid fun (W : World) (hb : Below w.heap.size w W) => config_any p c W (hp.below hb)
 obtain ⟨L, h1, h2, h3, h4, h5⟩ := cf_lay hc
 have HN := hid fun (W : World) => anew_nat L W h5
 have HSt := hid fun (W : World) (B : Nat) (hb : Below w.heap.size w W) (hm : MemAt W (some ⟨B, 0, none⟩) (noneM L)) => dwith_any (st_empty h3 (hp.below hb) hm) hc (by simp) 0
 have HF := hid fun (s : Int) (v : Int) (d : Int) (tt : Int) (hh : Int) (W : World) => cf_field3 s v d (L : Int) tt hh W
 obtain ⟨s, v, d, l, tt, h⟩ := c
 simp only at h2
 subst h2
 unfold CfV at HC
 simp only at HC
 have hfld := fun W => cf_field3 s v d (L : Int) tt h W
 clear hp hc h1 h3 HF
 go_enter Tryz.func106, Tryz.ntmps106
 go_wp2_with fail
 refine hI.mono ?_
 rintro e w1 ⟨rfl, hb⟩
 have HV := hid hb
 clear hI hb
 go_wp2_with fail
 refine (HC.out _ HV.out).mono ?_
 rintro e w2 ⟨rfl, hb⟩
 replace HV := hid (HV.out.trans (hb.mono HV.out.size))
 clear HC hb
 go_wp2_with fail
 refine (HN.out _).mono ?_
 rintro e w3 ⟨B, g, ps, rfl, _, _, hM, hb⟩
 replace HV := hid (HV.out.trans (hb.mono HV.out.size))
 have HM : Hid (MemAt w3 (some ⟨B, 0, none⟩) (noneM L)) := .inr ⟨_, _, _, rfl, hM⟩
 clear HN hb hM
 have hW := HSt.out w3 B HV.out HM.out
 have HA : Hid (Below w.heap.size w (w3.alloc (.cells #[.pointer p, .slice none 0 0, .slice none 0 0, .pointer (some ⟨B, 0, none⟩)] 181))) := HV.out.alloc HV.out.size _
 clear HSt HM HV
 go_wp2_with fail
 refine hW.mono ?_
 rintro e w4 ⟨g4, ta4, tc4, ha4, hc4, pq4, rfl, hS, hk, hb⟩
 have HE : Hid (GivesS w (mF p) ⟨s, v, d, (L : Int), tt, h⟩ [0] (.returned (.tuple #[.pointer (some ⟨g4, 0, none⟩), .int .i64 0])) w4) := ⟨g4, _, rfl, hS.at (by simp) (by simp), stF_of (HA.out.trans (hb.mono HA.out.size)) (fun k hk' => .inr (Nat.le_trans HA.out.size (hk k hk'))), HA.out.trans (hb.mono HA.out.size)⟩
 clear hW hS hk hb HA
 go_wp2
 go_ret2
 exact HE.out
end Go.Proofs.YtjgggialnegddaaGreat
