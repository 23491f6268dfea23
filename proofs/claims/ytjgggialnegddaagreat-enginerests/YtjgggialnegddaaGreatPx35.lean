/-
  KvCons: Package kv: its contracts as the statements' walks want them: a cache at a pointer with its entries (KvAt), what a call that turns it leaves (KvG), New, Find, Put, Len, Has, Clear, Pages, and a cache that nobody made (KvNo).
  EnKv: The cache of a replica: at a pointer with the blocks that its calls turn and the blocks of ints that it reads (KcAt); or none (CaAt); its calls.
  EnSt: A replica of package engine in memory: its struct, map, rows, attempts and cache (EnI); the blocks that its calls turn (enF); the same at a pointer (EnAt).
  EnW3: Package engine: a replica that is turned in its struct, map and rows alone (EnI.re); made, Inc, Load, Drains, Cached, Crash.
-/
import Derived.Test.YtjgggialnegddaaGreatPx34
import Derived.Test.YtjgggialnegddaaGreatPx19
import Derived.Test.YtjgggialnegddaaGreatPx14
namespace Go.Proofs.YtjgggialnegddaaGreat
open Go.RowKit Go.Maps
set_option linter.unusedVariables false
set_option maxRecDepth 1000000

def KvX (W : World) (p : Option Addr) (c : Cf) (pg sz : Nat) (tm : Int) (es : List En) (F : Nat → Prop) : Prop :=
  ∃ B bb r pp L, p = some ⟨B, 0, none⟩ ∧ KvB W B bb r pp L c pg sz tm (txs es) ∧ (∀ e ∈ es, L.us e.1 = e.2) ∧ (L.mx : Int) ≤ 300 * tm ∧ F = ftB B bb L (txs es)
/-- The cache at a pointer: its entries; its calls turn the blocks F alone. -/
structure KvAt (W : World) (p : Option Addr) (c : Cf) (pg sz : Nat) (tm : Int) (es : List En) (F : Nat → Prop) : Prop where
  ptr : ∃ g, p = some ⟨g, 0, none⟩
  ok : OkK pg sz tm es
  old : ∀ k, F k → k < W.heap.size
  nd : ∀ k, F k → ¬ DocB W k
  rest : KvX W p c pg sz tm es F
section
variable {B bb r : Nat} {pp : Option Addr} {L : Lay} {c : Cf} {pg sz : Nat} {tm : Int} {es : List En}
theorem KvB.at {W : World} (h : KvB W B bb r pp L c pg sz tm (txs es)) (ho : OkK pg sz tm es) (hu : ∀ e ∈ es, L.us e.1 = e.2) (hm : (L.mx : Int) ≤ 300 * tm) : KvAt W (some ⟨B, 0, none⟩) c pg sz tm es (ftB B bb L (txs es)) := by
  refine ⟨⟨B, rfl⟩, ho, h.old, fun k hk hd => ?_, B, bb, r, pp, L, rfl, h, hu, hm, rfl⟩
  obtain ⟨cur, t, fz, h1, h2⟩ := hd
  rcases h.kind hk with ⟨cur', t', fz', h3, h4⟩ | ⟨es, cl, h3⟩
  · rw [h1] at h3
    simp at h3
    obtain ⟨_, rfl, _⟩ := h3
    rcases h2 with h2 | h2 | h2 <;> (rw [h2] at h4; simp at h4)
  · rw [h1] at h3
    simp at h3
end
theorem KvAt.fb {G : Nat → Prop} {W W' : World} {p : Option Addr} {c : Cf} {pg sz : Nat} {tm : Int} {es : List En} {F : Nat → Prop} (h : KvAt W p c pg sz tm es F) (hb : Fb G W W') (hG : ∀ k, G k → DocB W k) : KvAt W' p c pg sz tm es F := by
  have hnd := h.nd
  obtain ⟨B, bb, r, pp, L, rfl, h1, h2, h3, rfl⟩ := h.rest
  refine (h1.fb hb (fun k hk hg => hnd k hk (hG k hg)) (KpL.fb hb fun k cur t fz hk hc ht => ?_) fun k cur fz hk hc => ?_).at h.ok h2 h3
  · obtain ⟨cur', t', fz', e1, e2⟩ := hG k hk
    rw [hc] at e1
    simp at e1
    obtain ⟨_, rfl, _⟩ := e1
    rcases e2 with e2 | e2 | e2 <;> (rw [e2] at ht; simp at ht)
  · obtain ⟨cur', t', fz', e1, e2⟩ := hG k hk
    rw [hc] at e1
    simp at e1
    obtain ⟨_, rfl, _⟩ := e1
    simp at e2
theorem KvAt.below {W W' : World} {p : Option Addr} {c : Cf} {pg sz : Nat} {tm : Int} {es : List En} {F : Nat → Prop} (h : KvAt W p c pg sz tm es F) (hb : Below W.heap.size W W') : KvAt W' p c pg sz tm es F := h.fb (G := fun _ => False) (Fb.of hb) fun k hk => hk.elim
/-- The tokens of entries are numbers of 64 bits. -/
theorem KvAt.tk {W : World} {p : Option Addr} {c : Cf} {pg sz : Nat} {tm : Int} {es : List En} {F : Nat → Prop} (h : KvAt W p c pg sz tm es F) : ∀ x ∈ txs es, Tk x := by
  obtain ⟨B, bb, r, pp, L, rfl, h1, h2, h3, rfl⟩ := h.rest
  exact h1.tok
/-- What a call that turns the cache leaves. -/
def KvG (w : World) (F : Nat → Prop) (p : Option Addr) (c : Cf) (pg sz : Nat) (tm : Int) (es : List En) (w' : World) : Prop := ∃ F', KvAt w' p c pg sz tm es F' ∧ (∀ k, F' k → F k ∨ w.heap.size ≤ k) ∧ Fb F w w'
theorem OkK.far {pg sz : Nat} {tm : Int} {es : List En} (h : OkK pg sz tm es) (ts : List Int) : ∃ J, Far (txs es) sz ts J := by
  obtain ⟨J, h1, h2⟩ := h.e.was h.z.1 ts
  exact ⟨J, h1, h2⟩
theorem Far.best {sz : Nat} {es : List En} {ts : List Int} {J : Nat} (h : Far (txs es) sz ts J) (hE : OkE sz es) (hz : 1 ≤ sz) : bestK ts es es.length = ((J * sz : Nat) : Int) :=
  hE.best hz (fun i h1 h2 => h.take h1 h2) h.le fun hl hm => by have := (h.iff (J + 1) (by omega) hl).1 hm; omega
theorem Usd.useK {L : Lay} {sz : Nat} {ts : List Int} {t2 : Int} {J : Nat} {us : List Int → Int} {es : List En} (h : Usd L sz ts t2 J us) (hF : Far (txs es) sz ts J) (hE : OkE sz es) (hu : ∀ e ∈ es, L.us e.1 = e.2) : ∀ e ∈ useK t2 ts es es.length, us e.1 = e.2 := by
  intro e he
  obtain ⟨i, hi, rfl⟩ := mem_en he
  rw [useK_len] at hi
  rw [useK_at _ _ hi]
  have hmem : (en es i).1 ∈ txs es := mem_txs.2 ⟨i, hi, rfl⟩
  obtain ⟨al, a1, a2⟩ := hE.mult _ hmem
  split
  · rename_i hc
    show us (en es i).1 = t2
    have hq := begB_eq hc.2
    have hle := (begB_iff.1 hc.2).1
    rw [a2] at hq hle
    have := (hF.iff al a1 hle).1 (by rw [← hq]; exact hmem)
    rw [hq]
    exact h.now al a1 this
  · rename_i hc
    rw [h.rest (en es i).1 fun k k1 k2 e => hc ⟨hi, by rw [e]; exact begB_take _⟩]
    exact hu _ (en_mem hi)
theorem kfind_any {F : Nat → Prop} {p : Option Addr} {c : Cf} {pg sz : Nat} {tm : Int} {es : List En} (a : Option Addr) (nt cap : Nat) (ts : List Int) (w : World) (h : KvAt w p c pg sz tm es F) (hc : mayB c = true) (ht : Reads .i64 w a nt cap ts) (hk : Tk ts) (hap : ∀ q, a = some q → ¬ F q.block) (hn : nt ≤ 256) (h1 : tm ≤ 100000) :
    Calls Tryz.prog 105 #[.pointer p, .slice a nt cap] w fun e w' => ∃ q, e = .returned (.tuple #[.pointer q, .int .i64 (bestK ts es es.length)]) ∧ KvG w F p c pg sz (tm + 1) (useK (tm + 1) ts es es.length) w' ∧ FndS w' q c ts (bestK ts es es.length) := by
  obtain ⟨B, bb, r, pp, L, rfl, k1, k2, k3, rfl⟩ := h.rest
  obtain ⟨J, hJ⟩ := h.ok.far ts
  rw [hJ.best h.ok.e h.ok.z.1]
  refine (kfind_in k1 h.ok.z hc h.ok.t h1 a nt cap ts ht hk hn hap hJ).mono ?_
  rintro e w' ⟨q, rfl, hF, us, g1, g2, g3⟩
  refine ⟨q, rfl, ⟨_, KvB.at (es := useK (tm + 1) ts es es.length) (by rw [txs_use]; exact g1) (h.ok.find ts _) (g2.useK hJ h.ok.e k2) (by show (L.mx : Int) ≤ _; omega), fun k hk => .inl (by rw [txs_use] at hk; exact hk), g3⟩, hF.s⟩
theorem kput_any {F Fs : Nat → Prop} {p : Option Addr} {c : Cf} {pg sz : Nat} {tm : Int} {es : List En} (q : Option Addr) (ts : List Int) (w : World) (h : KvAt w p c pg sz tm es F) (hc : mayB c = true) (hs : StAt w q c ts Fs) (hk : Tk ts) (hap : ∀ k, Fs k → F k → NotInt w k) (h1 : tm ≤ 100000) :
    Calls Tryz.prog 59 #[.pointer p, .pointer q] w fun e w' => e = .returned (.int .i64 (putK pg (tm + 1) sz ts es (ts.length / sz)).2.1) ∧ KvG w F p c pg sz (tm + 1) (putK pg (tm + 1) sz ts es (ts.length / sz)).1 w' := by
  obtain ⟨B, bb, r, pp, L, rfl, k1, k2, k3, rfl⟩ := h.rest
  obtain ⟨ta, hT, hta⟩ := hs.d
  refine (kput_in k1 h.ok k2 hc h1 (by omega) q ts ta hT (fun k hk' hf => ?_) hk).mono ?_
  · obtain ⟨cur, t, fz, e1, e2⟩ := hap k (hta k hk') (.inr (.inr (.inl hf)))
    obtain ⟨_, _, _, _, _, _, _, _, h5, _⟩ := hT
    obtain ⟨a, e, rfl⟩ := hk'
    obtain ⟨cur', fz', hcur⟩ := h5 a e
    rw [hcur] at e1
    simp at e1
    exact e2 e1.2.1.symm
  · rintro e w' ⟨rfl, L', g1, g2, g3, g4, g5, _⟩
    exact ⟨rfl, _, g1.at (h.ok.put ts hs.most) g2 (by have := h.ok.t; omega), g4, g5⟩
theorem kput_nil {F : Nat → Prop} {p : Option Addr} {c : Cf} {pg sz : Nat} {tm : Int} {es : List En} (w : World) (h : KvAt w p c pg sz tm es F) (h1 : tm ≤ 100000) : Calls Tryz.prog 59 #[.pointer p, .pointer none] w fun e w' => e = .returned (.int .i64 0) ∧ Fb F w w' := by
  obtain ⟨B, bb, r, pp, L, rfl, k1, k2, k3, rfl⟩ := h.rest
  have hz := h.ok.z
  have hF : Far (txs es) sz [] 0 := ⟨by simp, fun i i1 i2 => by
    have : 1 * sz ≤ i * sz := Nat.mul_le_mul_right _ i1
    have i3 : i * sz ≤ 0 := i2
    omega⟩
  have hM := kmade_yes k1
  have HUse := hid fun (W : World) (hb : Below w.heap.size w W) => kuse_any (k1.below hb) hz h.ok.t h1 none 0 0 [] (Reads.nil _ _) (fun x hx => by cases hx) (by omega) (fun q hq => by cases hq) hF
  rw [Nat.zero_mul] at HUse
  have s1 : ¬ (sz : Int) ≤ 0 := by omega
  clear h k1 k2 k3 hF
  go_enter Tryz.func59, Tryz.ntmps59
  go_wp2_with fail
  refine hM.mono ?_
  rintro e w' ⟨rfl, rfl⟩
  clear hM
  go_wp2_with fail
  refine (dtok_nil2 _).mono ?_
  rintro e w1 ⟨rfl, hb⟩
  have hU := HUse.out w1 hb
  have HB := hid hb
  clear hb HUse
  go_wp2_with fail
  refine hU.mono ?_
  rintro e w2 ⟨rfl, us, hK, hUs, hF⟩
  have c0 := hK.cells.1
  have HF : Hid (Fb (ftB B bb L (txs es)) w w2) := (Fb.of HB.out).trans hF fun k hk => .inl hk
  clear hK hUs hF hU HB
  go_wp2_with fail
  go_loopw [7, 8] (fun y z W => y = .int .i64 sz ∧ z = .int .i64 0 ∧ W = w2) (fun _ _ _ => 0)
  case atStart => exact ⟨rfl, rfl, rfl⟩
  case round =>
  obtain ⟨rfl, rfl, rfl⟩ := hrel
  go_wp2
  go_ret
  exact ⟨rfl, HF.out⟩
theorem klen_any {F : Nat → Prop} {p : Option Addr} {c : Cf} {pg sz : Nat} {tm : Int} {es : List En} (w : World) (h : KvAt w p c pg sz tm es F) : Calls Tryz.prog 46 #[.pointer p] w fun e w' => e = .returned (.int .i64 es.length) ∧ Below w.heap.size w w' := by
  obtain ⟨B, bb, r, pp, L, rfl, k1, k2, k3, rfl⟩ := h.rest
  have := klen_in k1
  rw [k1.cnt h.ok.e.one, txs_len] at this
  exact this
theorem kclear_any {F : Nat → Prop} {p : Option Addr} {c : Cf} {pg sz : Nat} {tm : Int} {es : List En} (w : World) (h : KvAt w p c pg sz tm es F) : Calls Tryz.prog 41 #[.pointer p] w fun e w' => e = .returned (.tuple #[]) ∧ KvG w F p c pg sz tm [] w' := by
  obtain ⟨B, bb, r, pp, L, rfl, k1, k2, k3, rfl⟩ := h.rest
  refine (kclear_in k1 h.ok.p.1).mono ?_
  rintro e w' ⟨rfl, F', hs', vs', g1, g2, g3⟩
  exact ⟨rfl, _, KvB.at (es := []) g1 h.ok.clear (fun e he => by cases he) k3, g2, g3⟩
theorem kpages_any {F : Nat → Prop} {p : Option Addr} {c : Cf} {pg sz : Nat} {tm : Int} {es : List En} (w : World) (h : KvAt w p c pg sz tm es F) : Calls Tryz.prog 66 #[.pointer p] w fun e w' => ∃ a cap, e = .returned (.slice a es.length cap) ∧ es.length ≤ cap ∧ cap ≤ 9223372036854775807 ∧ Below w.heap.size w w' := by
  obtain ⟨B, bb, r, pp, L, rfl, k1, k2, k3, rfl⟩ := h.rest
  have := kpages_in k1
  rw [k1.cnt h.ok.e.one, txs_len] at this
  refine this.mono ?_
  rintro e w' ⟨a, cap, rfl, hr, hb⟩
  exact ⟨a, cap, rfl, hr.room, hr.most, hb⟩
theorem knew_nil (n m : Int) (w : World) : Calls Tryz.prog 51 #[.pointer none, .int .i64 n, .int .i64 m] w fun e w' => e = .returned (.tuple #[.pointer none, .int .i64 2]) ∧ Below w.heap.size w w' := by
  have hC := config_any none ⟨0, 0, 0, 0, 0, 0⟩ w (.inl ⟨rfl, rfl⟩)
  go_enter Tryz.func51, Tryz.ntmps51
  go_wp2_with fail
  refine hC.mono ?_
  rintro e w1 ⟨rfl, hb⟩
  go_wp2_with fail
  refine (may_any _ w1).mono ?_
  rintro e w2 ⟨rfl, hb2⟩
  have HB := hid (hb.trans (hb2.mono hb.size))
  have hf : mayB ⟨0, 0, 0, 0, 0, 0⟩ = false := by decide
  rw [hf]
  clear hb hb2 hC hf
  go_wp2
  go_ret2
  exact ⟨rfl, HB.out⟩
theorem knew_no (p : Option Addr) (c : Cf) (n m : Int) (w : World) (hp : MdAt w p c) (hc : mayB c = true) (h : n < 1 ∨ 256 < n ∨ m < 1 ∨ 16 < m) : Calls Tryz.prog 51 #[.pointer p, .int .i64 n, .int .i64 m] w fun e w' => e = .returned (.tuple #[.pointer none, .int .i64 1]) ∧ Below w.heap.size w w' := by
  have hC := config_any p c w hp
  by_cases h1 : m < 1
  · clear h hp
    go_enter Tryz.func51, Tryz.ntmps51
    go_wp2_with fail
    refine hC.mono ?_
    rintro e w1 ⟨rfl, hb⟩
    go_wp2_with fail
    refine (may_any _ w1).mono ?_
    rintro e w2 ⟨rfl, hb2⟩
    have HB := hid (hb.trans (hb2.mono hb.size))
    rw [hc]
    clear hb hb2 hC hc
    go_wp2
    go_ret2
    exact ⟨rfl, HB.out⟩
  by_cases h2 : 16 < m
  · clear h hp
    go_enter Tryz.func51, Tryz.ntmps51
    go_wp2_with fail
    refine hC.mono ?_
    rintro e w1 ⟨rfl, hb⟩
    go_wp2_with fail
    refine (may_any _ w1).mono ?_
    rintro e w2 ⟨rfl, hb2⟩
    have HB := hid (hb.trans (hb2.mono hb.size))
    rw [hc]
    clear hb hb2 hC hc
    go_wp2
    go_ret2
    exact ⟨rfl, HB.out⟩
  have HN := hid fun W : World => pnew_no n W (by omega)
  clear h hp
  go_enter Tryz.func51, Tryz.ntmps51
  go_wp2_with fail
  refine hC.mono ?_
  rintro e w1 ⟨rfl, hb⟩
  go_wp2_with fail
  refine (may_any _ w1).mono ?_
  rintro e w2 ⟨rfl, hb2⟩
  have HB := hid (hb.trans (hb2.mono hb.size))
  rw [hc]
  clear hb hb2 hC hc
  go_wp2_with fail
  refine (HN.out w2).mono ?_
  rintro e w3 ⟨rfl, hb3⟩
  have HB3 := hid (HB.out.trans (hb3.mono HB.out.size))
  clear hb3 HB HN
  go_wp2
  go_ret2
  exact ⟨rfl, HB3.out⟩
theorem make_ptrs (w : World) (m : Nat) (hm : m ≤ 1001) : (Instr.makeSlice 114 (.int .i64 (m : Int)) (.int .i64 (m : Int))).run Tryz.prog w = .ok (.slice (some ⟨w.heap.size, 0, none⟩) m m) (w.alloc (.cells (madeCells #[.pointer none] m) 113)) := by
  obtain ⟨i0, hi, hz0, hz1, hz2⟩ := info_parts Tryz.infoPe
  have := run_make (P := Tryz.prog) w 114 113 i0 (.pointer none) Tryz.underlying114 hi hz0 .i64 .i64 (m : Int) (m : Int) (by omega) (Int.le_refl _) (by rw [hz2]; omega) (by omega)
  rw [this, hz1, Int.toNat_natCast, Nat.mul_one]
  rfl
/-- How a new cache lies. -/
def Lay.new (F : Nat → Prop) (n eb mb : Nat) : Lay :=
  { Fp := F, hs := List.replicate n 0, vs := List.replicate n (.pointer none), mx := 0, nd := fun _ => eb, mp := fun _ => mb, st := fun _ => none, ta := fun _ => none, pgs := fun _ => 0, us := fun _ => 0 }
theorem kv_new {w3 w4 w5 w6 w7 : World} {F : Nat → Prop} {pp : Option Addr} {c : Cf} {n m : Nat} (hn : 1 ≤ n ∧ n ≤ 256) (hm : 1 ≤ m ∧ m ≤ 16) (hP : PgAt w3 pp (List.replicate n 0) F) (h4 : w4 = w3.alloc (.map #[] 0)) (h5 : w5 = w4.alloc (.cells (ndC none [] w3.heap.size none 0 0) 124)) (h6 : w6 = w5.alloc (.cells (madeCells #[.pointer none] n) 113))
    (h7 : w7 = w6.alloc (.cells #[.int .i64 m, .pointer pp, .pointer (some ⟨w4.heap.size, 0, none⟩), .slice (some ⟨w5.heap.size, 0, none⟩) n n, .int .u64 0] 116)) :
    KvAt w7 (some ⟨w6.heap.size, 0, none⟩) c n m 0 [] (ftB w6.heap.size w5.heap.size (Lay.new F n w4.heap.size w3.heap.size) []) ∧ (∀ k, ftB w6.heap.size w5.heap.size (Lay.new F n w4.heap.size w3.heap.size) [] k → F k ∨ w3.heap.size ≤ k) ∧ Below w3.heap.size w3 w7 := by
  have b4 : Below w3.heap.size w3 w4 := by rw [h4]; exact (Below.refl _ _).alloc (Nat.le_refl _) _
  have b5 : Below w4.heap.size w4 w5 := by rw [h5]; exact (Below.refl _ _).alloc (Nat.le_refl _) _
  have b6 : Below w5.heap.size w5 w6 := by rw [h6]; exact (Below.refl _ _).alloc (Nat.le_refl _) _
  have b7 : Below w6.heap.size w6 w7 := by rw [h7]; exact (Below.refl _ _).alloc (Nat.le_refl _) _
  have b67 : Below w5.heap.size w5 w7 := b6.trans (b7.mono b6.size)
  have b57 : Below w4.heap.size w4 w7 := b5.trans (b67.mono b5.size)
  have b37 : Below w3.heap.size w3 w7 := b4.trans (b57.mono b4.size)
  have hI : ∀ {x : List Int}, InT [] x → x = [] := fun {x} hx => hx.elim id fun h' => by cases h'
  have s4 := b4.size
  have s5 := b5.size
  have s6 := b6.size
  refine ⟨?_, fun k hk => ?_, b37⟩
  · refine KvB.at (r := w4.heap.size) (pp := pp) ⟨?_, rfl, hP.below b37, by simp [Lay.new], fun k hk => .inl ⟨?_, fun x hx => by cases hx⟩, (fun x hx => by cases hx), (fun x hx => by cases hx), ?_, (fun x hx => by cases hx), ⟨fun x hx => ?_, fun x hx => ?_, fun x y hx hy _ => by rw [hI hx, hI hy], fun x y hx hy _ => by rw [hI hx, hI hy]⟩, (fun x hx => by cases hx), (fun x hx => by cases hx)⟩ (okk_new hm hn) (fun e he => by cases he) (by simp [Lay.new])
    · rw [h7]; exact heap_alloc_new w6 _
    · simp [Lay.new, hk]
    · have := World.ownsRow_lit (base := w5.heap.size) (e := 113) (size := 1) w5 (madeCells #[.pointer none] n) n (Nat.le_refl _) (by unfold maxLen; omega) (by simp [madeCells])
      rw [toList_madeCells_one, ← h6] at this
      exact own_base (own_below this b7) (Nat.zero_le _)
    · rw [hI hx]
      have : w5.heap[w4.heap.size]? = some (.cells (ndC none [] w3.heap.size none 0 0) 124 (0, 0)) := by rw [h5]; exact heap_alloc_new w4 _
      show NdAt w7 w4.heap.size (ahP (fun _ => w4.heap.size) m []) (byL m []) w3.heap.size none 0 0
      rw [show ahP (fun _ => w4.heap.size) m [] = none from if_pos rfl, show byL m [] = [] by simp [byL]]
      exact (b67.block _ (lt_of_block this)).trans this
    · rw [hI hx]
      have : MvAt w4 w3.heap.size 0 (fun _ => none) := by rw [h4]; exact MvAt.new w3
      exact (this.below b57).ext fun v l _ => (chF_none (fun ch _ hm => by cases hm) v).symm
  · rcases hk with h' | h' | h' | ⟨x, hx, h' | h'⟩
    · exact .inr (by omega)
    · exact .inr (by omega)
    · exact .inl h'
    · exact .inr (by have e : k = w4.heap.size := h'; omega)
    · exact .inr (by have e : k = w3.heap.size := h'; omega)
set_option maxHeartbeats 1000000 in
theorem knew_yes (p : Option Addr) (c : Cf) (n m : Nat) (w : World) (hp : MdAt w p c) (hc : mayB c = true) (hn : 1 ≤ n ∧ n ≤ 256) (hm : 1 ≤ m ∧ m ≤ 16) : Calls Tryz.prog 51 #[.pointer p, .int .i64 n, .int .i64 m] w fun e w' => ∃ g F, e = .returned (.tuple #[.pointer (some ⟨g, 0, none⟩), .int .i64 0]) ∧ KvAt w' (some ⟨g, 0, none⟩) c n m 0 [] F ∧ (∀ k, F k → w.heap.size ≤ k) ∧ Below w.heap.size w w' := by
  have hC := config_any p c w hp
  have q1 : ¬ (m : Int) < 1 := by omega
  have q2 : ¬ (16 : Int) < (m : Int) := by omega
  have HN := hid fun W : World => pnew_yes n W hn.1 hn.2
  have hmk := fun (W : World) => make_ptrs W n (by omega)
  clear hp
  go_enter Tryz.func51, Tryz.ntmps51
  go_wp2_with fail
  refine hC.mono ?_
  rintro e w1 ⟨rfl, hb⟩
  go_wp2_with fail
  refine (may_any _ w1).mono ?_
  rintro e w2 ⟨rfl, hb2⟩
  have HB := hid (hb.trans (hb2.mono hb.size))
  rw [hc]
  clear hb hb2 hC hc
  go_wp2_with fail
  refine (HN.out w2).mono ?_
  rintro e w3 ⟨g, F, rfl, hP, hF, hb3⟩
  have HP := hid hP
  have HF := hid hF
  have HB3 := hid (HB.out.trans (hb3.mono HB.out.size))
  have HS3 := hid hb3.size
  clear hb3 hP hF HN
  obtain ⟨w4, hw4⟩ : ∃ w4, w4 = w3.alloc (.map #[] 0) := ⟨_, rfl⟩
  obtain ⟨w5, hw5⟩ : ∃ w5, w5 = w4.alloc (.cells (ndC none [] w3.heap.size none 0 0) 124) := ⟨_, rfl⟩
  obtain ⟨w6, hw6⟩ : ∃ w6, w6 = w5.alloc (.cells (madeCells #[.pointer none] n) 113) := ⟨_, rfl⟩
  obtain ⟨w7, hw7⟩ : ∃ w7, w7 = w6.alloc (.cells #[.int .i64 m, .pointer (some ⟨g, 0, none⟩), .pointer (some ⟨w4.heap.size, 0, none⟩), .slice (some ⟨w5.heap.size, 0, none⟩) n n, .int .u64 0] 116) := ⟨_, rfl⟩
  obtain ⟨g1, g2, g3⟩ := kv_new (c := c) hn hm HP.out hw4 hw5 hw6 hw7
  have HR : Hid (KvAt w7 (some ⟨w6.heap.size, 0, none⟩) c n m 0 [] (ftB w6.heap.size w5.heap.size (Lay.new F n w4.heap.size w3.heap.size) []) ∧ (∀ k, ftB w6.heap.size w5.heap.size (Lay.new F n w4.heap.size w3.heap.size) [] k → w.heap.size ≤ k) ∧ Below w.heap.size w w7) := ⟨g1, fun k hk => by
    rcases g2 k hk with h' | h'
    · exact Nat.le_trans HB.out.size (HF.out k h')
    · exact Nat.le_trans HB3.out.size h', HB3.out.trans (g3.mono HB3.out.size)⟩
  have hmm : (Instr.makeMap 122 none).run Tryz.prog w3 = .ok (.map (some w3.heap.size)) w4 := by rw [hw4]; rfl
  have hmk5 := hmk w5
  rw [← hw6] at hmk5
  replace hw5 : w5 = w4.alloc (.cells #[Value.pointer none, .int .i64 0, .int .i64 0, .int .i64 0, .int .i64 0, .int .i64 0, .int .i64 0, .int .i64 0, .int .i64 0, .int .i64 0, .int .i64 0, .int .i64 0, .int .i64 0, .int .i64 0, .int .i64 0, .int .i64 0, .int .i64 0, .map (some w3.heap.size), .pointer none, .int .i64 0, .int .u64 0] 124) := hw5.trans rfl
  clear hmk g1 g2 g3 hw4 hw6 HP HF HB HB3 HS3
  have hmk6 : (Instr.makeSlice 114 (.int .i64 (n : Int)) (.int .i64 (n : Int))).run Tryz.prog (w4.alloc (.cells #[Value.pointer none, .int .i64 0, .int .i64 0, .int .i64 0, .int .i64 0, .int .i64 0, .int .i64 0, .int .i64 0, .int .i64 0, .int .i64 0, .int .i64 0, .int .i64 0, .int .i64 0, .int .i64 0, .int .i64 0, .int .i64 0, .int .i64 0, .map (some w3.heap.size), .pointer none, .int .i64 0, .int .u64 0] 124)) = .ok (.slice (some ⟨w5.heap.size, 0, none⟩) n n) w6 := by rw [← hw5]; exact hmk5
  clear hw5 hmk5
  go_wp2_with fail
  rw [← hw7]
  go_ret2
  exact ⟨_, _, rfl, HR.out⟩
/-- The cells of a cache that nobody made (the code's own). -/
def zeroK : Array Value := #[.int .i64 0, .pointer none, .pointer none, .slice none 0 0, .int .u64 0]
/-- No cache, or one that nobody made. -/
def KvNo (W : World) (p : Option Addr) : Prop := p = none ∨ ∃ g, p = some ⟨g, 0, none⟩ ∧ W.heap[g]? = some (.cells zeroK 116 (0, 0))
theorem KvNo.below {W W' : World} {p : Option Addr} (h : KvNo W p) (hb : Below W.heap.size W W') : KvNo W' p := by
  rcases h with h | ⟨g, hp, hg⟩
  · exact .inl h
  · exact .inr ⟨g, hp, (hb.block g (lt_of_block hg)).trans hg⟩
theorem kmade_no {W : World} {p : Option Addr} (h : KvNo W p) : Calls Tryz.prog 60 #[.pointer p] W fun e w' => e = .returned (.bool false) ∧ W = w' := by
  rcases h with rfl | ⟨g, rfl, hg⟩
  · go_enter Tryz.func60, Tryz.ntmps60
    go_wp2
    go_ret
    exact ⟨rfl, rfl⟩
  · have c1 : W.cell? ⟨g, 1, none⟩ = some (.pointer none) := by rw [cell_of_row _ _ _ _ _ _ hg]; rfl
    clear hg
    go_enter Tryz.func60, Tryz.ntmps60
    go_wp2
    go_ret
    exact ⟨rfl, rfl⟩
theorem kno_clear (p : Option Addr) (w : World) (h : KvNo w p) : Calls Tryz.prog 41 #[.pointer p] w fun e w' => e = .returned (.tuple #[]) ∧ Below w.heap.size w w' := by
  have hM := kmade_no h
  clear h
  go_enter Tryz.func41, Tryz.ntmps41
  go_wp2_with fail
  refine hM.mono ?_
  rintro e w' ⟨rfl, rfl⟩
  go_wp2
  (try simp only [Exit.inBlock, Exit.then])
  refine bodyPost_ret (results_none rfl _ _ _) rfl ?_
  exact ⟨rfl, Below.refl _ _⟩
theorem kno_find (p : Option Addr) (a : Option Addr) (n cap : Nat) (w : World) (h : KvNo w p) (hm : n ≤ cap ∧ cap ≤ 9223372036854775807) : Calls Tryz.prog 105 #[.pointer p, .slice a n cap] w fun e w' => e = .returned (.tuple #[.pointer none, .int .i64 0]) ∧ Below w.heap.size w w' := by
  have hM := kmade_no h
  clear h hm
  go_enter Tryz.func105, Tryz.ntmps105
  go_wp2_with fail
  refine hM.mono ?_
  rintro e w' ⟨rfl, rfl⟩
  go_wp2
  go_ret2
  exact ⟨rfl, Below.refl _ _⟩
theorem kno_put (p : Option Addr) (w : World) (h : KvNo w p) : Calls Tryz.prog 59 #[.pointer p, .pointer none] w fun e w' => e = .returned (.int .i64 0) ∧ Below w.heap.size w w' := by
  have hM := kmade_no h
  clear h
  go_enter Tryz.func59, Tryz.ntmps59
  go_wp2_with fail
  refine hM.mono ?_
  rintro e w' ⟨rfl, rfl⟩
  go_wp2
  go_ret
  exact ⟨rfl, Below.refl _ _⟩
theorem kno_page (p : Option Addr) (w : World) (h : KvNo w p) : Calls Tryz.prog 66 #[.pointer p] w fun e w' => e = .returned (.slice none 0 0) ∧ Below w.heap.size w w' := by
  have hM := kmade_no h
  clear h
  go_enter Tryz.func66, Tryz.ntmps66
  go_wp2_with fail
  refine hM.mono ?_
  rintro e w' ⟨rfl, rfl⟩
  go_wp2
  go_ret
  exact ⟨rfl, Below.refl _ _⟩
theorem kno_len (p : Option Addr) (w : World) (h : KvNo w p) : Calls Tryz.prog 46 #[.pointer p] w fun e w' => e = .returned (.int .i64 0) ∧ Below w.heap.size w w' := by
  have hP := kno_page p w h
  clear h
  go_enter Tryz.func46, Tryz.ntmps46
  go_wp2_with fail
  refine hP.mono ?_
  rintro e w' ⟨rfl, hb⟩
  have HB := hid hb
  clear hb hP
  go_wp2
  go_ret
  exact ⟨rfl, HB.out⟩
theorem kno_pages (p : Option Addr) (w : World) (h : KvNo w p) : Calls Tryz.prog 66 #[.pointer p] w fun e w' => ∃ a cap, e = .returned (.slice a 0 cap) ∧ cap ≤ 9223372036854775807 ∧ Below w.heap.size w w' :=
  (kno_page p w h).mono fun e w' ⟨h1, h2⟩ => ⟨none, 0, h1, by omega, h2⟩
end Go.Proofs.YtjgggialnegddaaGreat
namespace Go.Proofs.YtjgggialnegddaaGreat
open Go.RowKit Go.Maps
set_option linter.unusedVariables false
set_option maxRecDepth 1000000

/-- Is it a block of ints? -/
def IntB (W : World) (k : Nat) : Prop := ∃ cur fz, W.heap[k]? = some (.cells cur 3 fz)
theorem IntB.lt {W : World} {k : Nat} (h : IntB W k) : k < W.heap.size := by obtain ⟨c, f, e⟩ := h; exact lt_of_block e
theorem IntB.same {W W' : World} {k : Nat} (h : IntB W k) (hb : W'.heap[k]? = W.heap[k]?) : IntB W' k := by obtain ⟨c, f, e⟩ := h; exact ⟨c, f, hb.trans e⟩
theorem StT.int {W : World} {q : Option Addr} {c : Cf} {ts : List Int} {ta : Option Addr} (h : StT W q c ts ta) {k : Nat} (hk : mF ta k) : IntB W k := by
  obtain ⟨g, pm, tc, ha, hc, pq, _, _, h5, _⟩ := h
  obtain ⟨a, e, rfl⟩ := hk
  exact h5 a e
/-- The cache stays where its blocks, and the states' ones, stay. -/
theorem KvB.keep {W W' : World} {B bb r : Nat} {pp : Option Addr} {L : Lay} {c : Cf} {pg sz : Nat} {tm : Int} {T : List (List Int)} (h : KvB W B bb r pp L c pg sz tm T) (hs : W.heap.size ≤ W'.heap.size) (hone : ∀ k, ftB B bb L T k → W'.heap[k]? = W.heap[k]?) (hk : KpL W W') (hi : ∀ x ∈ T, ∀ k, mF (L.ta x) k → W'.heap[k]? = W.heap[k]?) : KvB W' B bb r pp L c pg sz tm T := by
  refine ⟨(hone B (.inl rfl)).trans h.var, h.root, h.pool.same hs fun k hk => hone k (.inr (.inr (.inl hk))), h.hsl, h.held, h.pgb, h.pgi, own_blk h.row fun b hb' => ?_, h.at', h.tree.same fun x hx => ⟨hone _ (.inr (.inr (.inr ⟨x, hx, .inl rfl⟩))), hone _ (.inr (.inr (.inr ⟨x, hx, .inr rfl⟩)))⟩, fun x hx => ⟨(h.sts x hx).1.keep hk (hi x hx), (h.sts x hx).2⟩, h.tok⟩
  cases hb'
  exact hone bb (.inr (.inl rfl))
/-- The cache at a pointer: its calls turn the blocks F alone; of blocks of ints it reads those of It alone. -/
structure KcAt (W : World) (p : Option Addr) (c : Cf) (pg sz : Nat) (tm : Int) (es : List En) (F It : Nat → Prop) : Prop where
  ok : OkK pg sz tm es
  rest : ∃ B bb r pp L, p = some ⟨B, 0, none⟩ ∧ KvB W B bb r pp L c pg sz tm (txs es) ∧ (∀ e ∈ es, L.us e.1 = e.2) ∧ (L.mx : Int) ≤ 300 * tm ∧ F = ftB B bb L (txs es) ∧ ∀ x ∈ txs es, ∀ k, mF (L.ta x) k → It k
section
variable {W W' : World} {p : Option Addr} {c : Cf} {pg sz : Nat} {tm : Int} {es : List En} {F It : Nat → Prop}
theorem KcAt.old (h : KcAt W p c pg sz tm es F It) (k : Nat) (hk : F k) : k < W.heap.size := by
  obtain ⟨B, bb, r, pp, L, rfl, h1, h2, h3, rfl, h5⟩ := h.rest
  exact h1.old k hk
theorem KcAt.kind (h : KcAt W p c pg sz tm es F It) {k : Nat} (hk : F k) :
    (∃ cur t fz, W.heap[k]? = some (.cells cur t fz) ∧ (t = 116 ∨ t = 113 ∨ t = 156 ∨ t = 3 ∨ t = 124)) ∨ ∃ es clock, W.heap[k]? = some (.map es clock) := by
  obtain ⟨B, bb, r, pp, L, rfl, h1, h2, h3, rfl, h5⟩ := h.rest
  exact h1.kind hk
theorem KcAt.mono (h : KcAt W p c pg sz tm es F It) {It' : Nat → Prop} (hi : ∀ k, It k → It' k) : KcAt W p c pg sz tm es F It' := by
  obtain ⟨B, bb, r, pp, L, h0, h1, h2, h3, h4, h5⟩ := h.rest
  exact ⟨h.ok, B, bb, r, pp, L, h0, h1, h2, h3, h4, fun x hx k hk => hi k (h5 x hx k hk)⟩
theorem KcAt.min (h : KcAt W p c pg sz tm es F It) : ∃ It0 : Nat → Prop, KcAt W p c pg sz tm es F It0 ∧ (∀ k, It0 k → It k) ∧ ∀ k, It0 k → IntB W k ∧ ¬ F k := by
  obtain ⟨B, bb, r, pp, L, h0, h1, h2, h3, h4, h5⟩ := h.rest
  refine ⟨fun k => ∃ x ∈ txs es, mF (L.ta x) k, ⟨h.ok, B, bb, r, pp, L, h0, h1, h2, h3, h4, fun x hx k hk => ⟨x, hx, hk⟩⟩, ?_, ?_⟩
  · rintro k ⟨x, hx, hk⟩
    exact h5 x hx k hk
  · rintro k ⟨x, hx, hk⟩
    obtain ⟨s1, s2⟩ := h1.sts x hx
    exact ⟨s1.int hk, by rw [h4]; exact h1.taft s1 s2 hk⟩
theorem KcAt.keep (h : KcAt W p c pg sz tm es F It) (hs : W.heap.size ≤ W'.heap.size) (hF : ∀ k, F k → W'.heap[k]? = W.heap[k]?) (hI : ∀ k, It k → W'.heap[k]? = W.heap[k]?) (hk : KpL W W') : KcAt W' p c pg sz tm es F It := by
  obtain ⟨B, bb, r, pp, L, h0, h1, h2, h3, rfl, h5⟩ := h.rest
  exact ⟨h.ok, B, bb, r, pp, L, h0, h1.keep hs hF hk fun x hx k hk => hI k (h5 x hx k hk), h2, h3, rfl, h5⟩
theorem kc_find (a : Option Addr) (nt cap : Nat) (ts : List Int) (w : World) (h : KcAt w p c pg sz tm es F It) (hc : mayB c = true) (ht : Reads .i64 w a nt cap ts) (hk : Tk ts) (hap : ∀ q, a = some q → ¬ F q.block) (hn : nt ≤ 256) (h1 : tm ≤ 100000) :
    Calls Tryz.prog 105 #[.pointer p, .slice a nt cap] w fun e w' => ∃ q n es' F', e = .returned (.tuple #[.pointer q, .int .i64 (n : Nat)]) ∧ n ≤ nt ∧ ((n = 0 ∧ q = none) ∨ (0 < n ∧ ∃ ta, StT w' q c (ts.take n) ta ∧ ∀ k, mF ta k → It k ∨ w.heap.size ≤ k)) ∧ KcAt w' p c pg sz (tm + 1) es' F' It ∧ (∀ k, F' k → F k) ∧ Fb F w w' := by
  obtain ⟨B, bb, r, pp, L, rfl, k1, k2, k3, rfl, k5⟩ := h.rest
  obtain ⟨J, hJ⟩ := h.ok.far ts
  have hle := hJ.le
  rw [ht.size] at hle
  refine (kfind_in k1 h.ok.z hc h.ok.t h1 a nt cap ts ht hk hn hap hJ).mono ?_
  rintro e w' ⟨q, rfl, hF, us, g1, g2, g3⟩
  refine ⟨q, J * sz, useK (tm + 1) ts es es.length, _, rfl, hle, ?_, ⟨h.ok.find ts _, B, bb, r, pp, { L with us := us }, rfl, by rw [txs_use]; exact g1, g2.useK hJ h.ok.e k2, by show (L.mx : Int) ≤ _; omega, rfl, fun x hx k hk => k5 x (by rw [txs_use] at hx; exact hx) k hk⟩, fun k hk => by rw [txs_use] at hk; exact hk, g3⟩
  rcases hF with ⟨h1, h2⟩ | ⟨h1, ta, h2, h3⟩
  · exact .inl ⟨by omega, h2⟩
  · refine .inr ⟨by omega, ta, by rw [Int.toNat_natCast] at h2; exact h2, fun k hk => ?_⟩
    rcases h3 k hk with ⟨y, hy, h'⟩ | h'
    · exact .inl (k5 y hy k h')
    · exact .inr h'
theorem kc_put (q : Option Addr) (ts : List Int) (tb : Option Addr) (w : World) (h : KcAt w p c pg sz tm es F It) (hc : mayB c = true) (hs : StT w q c ts tb) (hk : Tk ts) (hap : ∀ k, mF tb k → ¬ F k) (h1 : tm ≤ 100000) :
    Calls Tryz.prog 59 #[.pointer p, .pointer q] w fun e w' => ∃ n es' F' It', e = .returned (.int .i64 n) ∧ KcAt w' p c pg sz (tm + 1) es' F' It' ∧ (∀ k, F' k → F k ∨ w.heap.size ≤ k) ∧ (∀ k, It' k → It k ∨ mF tb k ∨ w.heap.size ≤ k) ∧ Fb F w w' := by
  obtain ⟨B, bb, r, pp, L, rfl, k1, k2, k3, rfl, k5⟩ := h.rest
  refine (kput_in k1 h.ok k2 hc h1 (by omega) q ts tb hs (fun k hk' hf => hap k hk' (.inr (.inr (.inl hf)))) hk).mono ?_
  rintro e w' ⟨rfl, L', g1, g2, g3, g4, g5, g6⟩
  have hm : ts.length ≤ 256 := by obtain ⟨_, _, _, _, _, _, _, _, _, _, h⟩ := hs; exact h
  refine ⟨_, _, _, fun k => It k ∨ mF tb k ∨ w.heap.size ≤ k, rfl, ⟨h.ok.put ts hm, B, bb, r, pp, L', rfl, g1, g2, by have := h.ok.t; omega, rfl, fun x hx k hk' => ?_⟩, g4, fun k hk => hk, g5⟩
  rcases g6 x hx k hk' with ⟨y, hy, h'⟩ | h'
  · exact .inl (k5 y hy k h')
  · exact .inr h'
theorem kc_len (w : World) (h : KcAt w p c pg sz tm es F It) : Calls Tryz.prog 46 #[.pointer p] w fun e w' => e = .returned (.int .i64 es.length) ∧ Below w.heap.size w w' := by
  obtain ⟨B, bb, r, pp, L, rfl, k1, k2, k3, rfl, k5⟩ := h.rest
  exact klen_any w (k1.at h.ok k2 k3)
theorem kc_clear (w : World) (h : KcAt w p c pg sz tm es F It) : Calls Tryz.prog 41 #[.pointer p] w fun e w' => ∃ F', e = .returned (.tuple #[]) ∧ KcAt w' p c pg sz tm [] F' (fun _ => False) ∧ (∀ k, F' k → F k ∨ w.heap.size ≤ k) ∧ Fb F w w' := by
  obtain ⟨B, bb, r, pp, L, rfl, k1, k2, k3, rfl, k5⟩ := h.rest
  refine (kclear_any w (k1.at h.ok k2 k3)).mono ?_
  rintro e w' ⟨rfl, F', g1, g2, g3⟩
  obtain ⟨B', bb', r', pp', L', e0, j1, j2, j3, rfl⟩ := g1.rest
  exact ⟨_, rfl, ⟨g1.ok, B', bb', r', pp', L', e0, j1, j2, j3, rfl, fun x hx => by simp [txs] at hx⟩, g2, g3⟩
end
theorem kno_put2 (p q : Option Addr) (w : World) (h : KvNo w p) : Calls Tryz.prog 59 #[.pointer p, .pointer q] w fun e w' => e = .returned (.int .i64 0) ∧ Below w.heap.size w w' := by
  have hM := kmade_no h
  clear h
  go_enter Tryz.func59, Tryz.ntmps59
  go_wp2_with fail
  refine hM.mono ?_
  rintro e w' ⟨rfl, rfl⟩
  go_wp2
  go_ret
  exact ⟨rfl, Below.refl _ _⟩
/-- The cache of a setting: none, or one that was asked tk times at most. -/
def CaAt (W : World) (p : Option Addr) (s : Sg) (tk : Nat) (F It : Nat → Prop) : Prop :=
  (s.pg = 0 ∧ p = none ∧ ∀ k, ¬ F k) ∨ ∃ (pg sz : Nat) (tm : Int) (es : List En), s.pg = pg ∧ tm ≤ tk ∧ KcAt W p s.c pg sz tm es F It
section
variable {W W' : World} {p : Option Addr} {s : Sg} {tk : Nat} {F It : Nat → Prop}
theorem CaAt.old (h : CaAt W p s tk F It) (k : Nat) (hk : F k) : k < W.heap.size := by
  rcases h with ⟨_, _, h⟩ | ⟨pg, sz, tm, es, h1, h2, h3⟩
  · exact absurd hk (h k)
  · exact h3.old k hk
theorem CaAt.kind (h : CaAt W p s tk F It) {k : Nat} (hk : F k) :
    (∃ cur t fz, W.heap[k]? = some (.cells cur t fz) ∧ (t = 116 ∨ t = 113 ∨ t = 156 ∨ t = 3 ∨ t = 124)) ∨ ∃ es clock, W.heap[k]? = some (.map es clock) := by
  rcases h with ⟨_, _, h⟩ | ⟨pg, sz, tm, es, h1, h2, h3⟩
  · exact absurd hk (h k)
  · exact h3.kind hk
theorem CaAt.mono (h : CaAt W p s tk F It) {It' : Nat → Prop} {tk' : Nat} (hi : ∀ k, It k → It' k) (ht : tk ≤ tk') : CaAt W p s tk' F It' := by
  rcases h with h | ⟨pg, sz, tm, es, h1, h2, h3⟩
  · exact .inl h
  · exact .inr ⟨pg, sz, tm, es, h1, by omega, h3.mono hi⟩
theorem CaAt.keep (h : CaAt W p s tk F It) (hs : W.heap.size ≤ W'.heap.size) (hF : ∀ k, F k → W'.heap[k]? = W.heap[k]?) (hI : ∀ k, It k → W'.heap[k]? = W.heap[k]?) (hk : KpL W W') : CaAt W' p s tk F It := by
  rcases h with h | ⟨pg, sz, tm, es, h1, h2, h3⟩
  · exact .inl h
  · exact .inr ⟨pg, sz, tm, es, h1, h2, h3.keep hs hF hI hk⟩
theorem ca_find (a : Option Addr) (nt cap : Nat) (ts : List Int) (w : World) (h : CaAt w p s tk F It) (hc : mayB s.c = true) (ht : Reads .i64 w a nt cap ts) (hk : Tk ts) (hap : ∀ q, a = some q → ¬ F q.block) (hn : nt ≤ 256) (h1 : tk ≤ 99990) :
    Calls Tryz.prog 105 #[.pointer p, .slice a nt cap] w fun e w' => ∃ q n F', e = .returned (.tuple #[.pointer q, .int .i64 (n : Nat)]) ∧ n ≤ nt ∧ ((n = 0 ∧ q = none) ∨ (0 < n ∧ ∃ ta, StT w' q s.c (ts.take n) ta ∧ ∀ k, mF ta k → It k ∨ w.heap.size ≤ k)) ∧ CaAt w' p s (tk + 1) F' It ∧ (∀ k, F' k → F k) ∧ Fb F w w' := by
  rcases h with ⟨h2, rfl, h3⟩ | ⟨pg, sz, tm, es, h2, h3, h4⟩
  · refine (kno_find none a nt cap w (.inl rfl) ⟨ht.room, ht.most⟩).mono ?_
    rintro e w' ⟨rfl, hb⟩
    exact ⟨none, 0, F, rfl, Nat.zero_le _, .inl ⟨rfl, rfl⟩, .inl ⟨h2, rfl, h3⟩, fun k hk => hk, Fb.of hb⟩
  · refine (kc_find a nt cap ts w h4 hc ht hk hap hn (by omega)).mono ?_
    rintro e w' ⟨q, n, es', F', rfl, g1, g2, g3, g4, g5⟩
    exact ⟨q, n, F', rfl, g1, g2, .inr ⟨pg, sz, _, es', h2, by omega, g3⟩, g4, g5⟩
theorem ca_put (q : Option Addr) (ts : List Int) (tb : Option Addr) (w : World) (h : CaAt w p s tk F It) (hc : mayB s.c = true) (hs : StT w q s.c ts tb) (hk : Tk ts) (hap : ∀ k, mF tb k → ¬ F k) (h1 : tk ≤ 99990) :
    Calls Tryz.prog 59 #[.pointer p, .pointer q] w fun e w' => ∃ n F' It', e = .returned (.int .i64 n) ∧ CaAt w' p s (tk + 1) F' It' ∧ (∀ k, F' k → F k ∨ w.heap.size ≤ k) ∧ (∀ k, It' k → It k ∨ mF tb k ∨ w.heap.size ≤ k) ∧ (∀ k, It' k → IntB w' k ∧ ¬ F' k) ∧ Fb F w w' := by
  rcases h with ⟨h2, rfl, h3⟩ | ⟨pg, sz, tm, es, h2, h3, h4⟩
  · refine (kno_put2 none q w (.inl rfl)).mono ?_
    rintro e w' ⟨rfl, hb⟩
    exact ⟨0, F, fun _ => False, rfl, .inl ⟨h2, rfl, h3⟩, fun k hk => .inl hk, fun k hk => hk.elim, fun k hk => hk.elim, Fb.of hb⟩
  · refine (kc_put q ts tb w h4 hc hs hk hap (by omega)).mono ?_
    rintro e w' ⟨n, es', F', It', rfl, g1, g2, g3, g4⟩
    obtain ⟨It0, j1, j2, j3⟩ := g1.min
    exact ⟨n, F', It0, rfl, .inr ⟨pg, sz, _, es', h2, by omega, j1⟩, g2, fun k hk => g3 k (j2 k hk), j3, g4⟩
theorem ca_len (w : World) (h : CaAt w p s tk F It) : Calls Tryz.prog 46 #[.pointer p] w fun e w' => ∃ n : Nat, e = .returned (.int .i64 n) ∧ (n : Int) ≤ max s.pg 0 ∧ Below w.heap.size w w' := by
  rcases h with ⟨h2, rfl, h3⟩ | ⟨pg, sz, tm, es, h2, h3, h4⟩
  · refine (kno_len none w (.inl rfl)).mono ?_
    rintro e w' ⟨rfl, hb⟩
    exact ⟨0, rfl, by omega, hb⟩
  · refine (kc_len w h4).mono ?_
    rintro e w' ⟨rfl, hb⟩
    exact ⟨es.length, rfl, by have := h4.ok.few; omega, hb⟩
theorem ca_clear (w : World) (h : CaAt w p s tk F It) : Calls Tryz.prog 41 #[.pointer p] w fun e w' => ∃ F', e = .returned (.tuple #[]) ∧ CaAt w' p s tk F' (fun _ => False) ∧ (∀ k, F' k → F k ∨ w.heap.size ≤ k) ∧ Fb F w w' := by
  rcases h with ⟨h2, rfl, h3⟩ | ⟨pg, sz, tm, es, h2, h3, h4⟩
  · refine (kno_clear none w (.inl rfl)).mono ?_
    rintro e w' ⟨rfl, hb⟩
    exact ⟨F, rfl, .inl ⟨h2, rfl, h3⟩, fun k hk => .inl hk, Fb.of hb⟩
  · refine (kc_clear w h4).mono ?_
    rintro e w' ⟨F', rfl, g1, g2, g3⟩
    exact ⟨F', rfl, .inr ⟨pg, sz, tm, [], h2, h3, g1⟩, g2, g3⟩
end
end Go.Proofs.YtjgggialnegddaaGreat
namespace Go.Proofs.YtjgggialnegddaaGreat
open Go.RowKit Go.Maps
set_option linter.unusedVariables false
set_option maxRecDepth 1000000

/-- The cells of an attempt. -/
def AtV (a : At) (pa : Option Addr) (pc : Nat) (sp : Option Addr) : Array Value := #[.int .u64 a.id, .int .u64 a.seed, .slice pa a.ts.length pc, .int .i64 a.most, .int .i64 a.k, .pointer sp]
/-- A state of an attempt: none yet, or of the prompt and the tokens that are known. -/
def StO (W : World) (c : Cf) (a : At) (sp : Option Addr) (It : Nat → Prop) : Prop := sp = none ∨ ∃ ta, StT W sp c (0 :: a.ts ++ (a.text c).take a.k) ta ∧ ∀ k, mF ta k → It k
/-- An attempt as it lies. -/
def AtIn (W : World) (c : Cf) (b : Nat) (a : At) (It : Nat → Prop) : Prop :=
  ∃ (pa : Option Addr) (pc : Nat) (sp : Option Addr), W.heap[b]? = some (.cells (AtV a pa pc sp) 106 (0, 0)) ∧ Reads .i64 W pa a.ts.length pc a.ts ∧ (∀ k, mF pa k → It k) ∧ StO W c a sp It ∧ ∀ t ∈ a.ts, 0 ≤ t ∧ t < c.vocab
theorem StO.keep {W W' : World} {c : Cf} {a : At} {sp : Option Addr} {It : Nat → Prop} (h : StO W c a sp It) (hI : ∀ k, It k → W'.heap[k]? = W.heap[k]?) (hk : KpL W W') : StO W' c a sp It := by
  rcases h with h | ⟨ta, h1, h2⟩
  · exact .inl h
  · exact .inr ⟨ta, h1.keep hk fun k hk' => hI k (h2 k hk'), h2⟩
theorem AtIn.keep {W W' : World} {c : Cf} {b : Nat} {a : At} {It : Nat → Prop} (h : AtIn W c b a It) (hb : W'.heap[b]? = W.heap[b]?) (hI : ∀ k, It k → W'.heap[k]? = W.heap[k]?) (hk : KpL W W') : AtIn W' c b a It := by
  obtain ⟨pa, pc, sp, h1, h2, h3, h4, h5⟩ := h
  exact ⟨pa, pc, sp, hb.trans h1, h2.same fun k hk' => hI k (h3 k hk'), h3, h4.keep hI hk, h5⟩
theorem AtIn.mono {W : World} {c : Cf} {b : Nat} {a : At} {It It' : Nat → Prop} (h : AtIn W c b a It) (hi : ∀ k, It k → It' k) : AtIn W c b a It' := by
  obtain ⟨pa, pc, sp, h1, h2, h3, h4, h5⟩ := h
  refine ⟨pa, pc, sp, h1, h2, fun k hk => hi k (h3 k hk), ?_, h5⟩
  rcases h4 with h | ⟨ta, h1, h2⟩
  · exact .inl h
  · exact .inr ⟨ta, h1, fun k hk => hi k (h2 k hk)⟩
/-- Only whether it is in the batch has turned. -/
theorem AtIn.run {W : World} {c : Cf} {b : Nat} {a : At} {It : Nat → Prop} (h : AtIn W c b a It) (r : Bool) : AtIn W c b { a with run := r } It := h
/-- The cells of a replica. -/
def RpV (pm pc : Option Addr) (S : Rs) (mb : Nat) (qv bv : Value) : Array Value := #[.pointer pm, .pointer pc, .int .i64 S.s.q, .int .i64 S.s.b, .int .i64 S.s.ch, .int .u64 S.inc, .bool S.dr, .map (some mb), qv, bv]
/-- Where the attempts lie. -/
def mapF (L : List At) (nd : Int → Nat) (x : Int) : Option Nat := if hasB L x = true then some (nd x) else none
/-- A replica as it lies: bs are in the batch, qs wait. -/
structure EnI (W : World) (B mb : Nat) (pm pc : Option Addr) (qv bv : Value) (nd : Int → Nat) (S : Rs) (bs qs : List At) (Fc It : Nat → Prop) : Prop where
  ok : OkR S
  bsl : (bs.length : Int) ≤ S.s.b
  qsl : (qs.length : Int) ≤ S.s.q
  L : S.L = bs ++ qs
  rb : ∀ a ∈ bs, a.run = true
  rq : ∀ a ∈ qs, a.run = false
  var : W.heap[B]? = some (.cells (RpV pm pc S mb qv bv) 73 (0, 0))
  md : ∃ g, pm = some ⟨g, 0, none⟩ ∧ W.heap[g]? = some (.cells (CfV S.s.c) 100 (0, 0))
  ca : CaAt W pc S.s S.tk Fc It
  map : AmAt W mb S.L.length (mapF S.L nd)
  mbc : ¬ Fc mb
  qrow : UQ W qv (qs.map (·.id))
  brow : UQ W bv (bs.map (·.id))
  qb : ∀ k, qv.ownBlock = some k → bv.ownBlock ≠ some k
  att : ∀ a ∈ S.L, AtIn W S.s.c (nd a.id) a It
  itI : ∀ k, It k → IntB W k ∧ ¬ Fc k
/-- The blocks that its calls turn. -/
def enF (B mb : Nat) (qv bv : Value) (nd : Int → Nat) (S : Rs) (Fc : Nat → Prop) (k : Nat) : Prop := k = B ∨ k = mb ∨ qv.ownBlock = some k ∨ bv.ownBlock = some k ∨ (∃ a ∈ S.L, k = nd a.id) ∨ Fc k
theorem UQ.kind {W : World} {v : Value} {ids : List Int} (h : UQ W v ids) {k : Nat} (hk : v.ownBlock = some k) : ∃ cur, W.heap[k]? = some (.cells cur 22 (0, 0)) := own_type h hk
section
variable {W W' : World} {B mb : Nat} {pm pc : Option Addr} {qv bv : Value} {nd : Int → Nat} {S : Rs} {bs qs : List At} {Fc It : Nat → Prop}
theorem EnI.may (h : EnI W B mb pm pc qv bv nd S bs qs Fc It) : mayB S.s.c = true := by
  have := h.ok.set
  unfold setB at this
  simp only [Bool.and_eq_true] at this
  exact this.1
theorem EnI.mdAt (h : EnI W B mb pm pc qv bv nd S bs qs Fc It) : MdAt W pm S.s.c := by
  obtain ⟨g, e, hg⟩ := h.md
  exact .inr ⟨g, e, hg⟩
/-- What lies in such a block. -/
theorem EnI.kind (h : EnI W B mb pm pc qv bv nd S bs qs Fc It) {k : Nat} (hk : enF B mb qv bv nd S Fc k) :
    (∃ cur t fz, W.heap[k]? = some (.cells cur t fz) ∧ (t = 73 ∨ t = 22 ∨ t = 106 ∨ t = 116 ∨ t = 113 ∨ t = 156 ∨ (t = 3 ∧ Fc k) ∨ t = 124)) ∨ ∃ es clock, W.heap[k]? = some (.map es clock) := by
  rcases hk with rfl | rfl | hk | hk | ⟨a, ha, rfl⟩ | hk
  · exact .inl ⟨_, _, _, h.var, .inl rfl⟩
  · exact .inr h.map.blk
  · obtain ⟨cur, hc⟩ := h.qrow.kind hk
    exact .inl ⟨_, _, _, hc, .inr (.inl rfl)⟩
  · obtain ⟨cur, hc⟩ := h.brow.kind hk
    exact .inl ⟨_, _, _, hc, .inr (.inl rfl)⟩
  · obtain ⟨pa, pc, sp, h1, _⟩ := h.att a ha
    exact .inl ⟨_, _, _, h1, .inr (.inr (.inl rfl))⟩
  · rcases h.ca.kind hk with ⟨cur, t, fz, h1, h2⟩ | h'
    · refine .inl ⟨cur, t, fz, h1, ?_⟩
      rcases h2 with h2 | h2 | h2 | h2 | h2
      · exact .inr (.inr (.inr (.inl h2)))
      · exact .inr (.inr (.inr (.inr (.inl h2))))
      · exact .inr (.inr (.inr (.inr (.inr (.inl h2)))))
      · exact .inr (.inr (.inr (.inr (.inr (.inr (.inl ⟨h2, hk⟩))))))
      · exact .inr (.inr (.inr (.inr (.inr (.inr (.inr h2))))))
    · exact .inr h'
theorem EnI.old (h : EnI W B mb pm pc qv bv nd S bs qs Fc It) (k : Nat) (hk : enF B mb qv bv nd S Fc k) : k < W.heap.size := by
  rcases h.kind hk with ⟨cur, t, fz, h1, _⟩ | ⟨es, cl, h1⟩ <;> exact lt_of_block h1
theorem EnI.oldI (h : EnI W B mb pm pc qv bv nd S bs qs Fc It) (k : Nat) (hk : It k) : k < W.heap.size := (h.itI k hk).1.lt
/-- What turns the replica's blocks alone leaves the states' types. -/
theorem EnI.kpl (h : EnI W B mb pm pc qv bv nd S bs qs Fc It) {G : Nat → Prop} (hb : Fb G W W') (hG : ∀ k, G k → enF B mb qv bv nd S Fc k ∨ W.heap.size ≤ k) : KpL W W' := by
  refine KpL.fb hb fun k cur t fz hk hc ht => ?_
  rcases hG k hk with hk | hk
  · rcases h.kind hk with ⟨cur', t', fz', h1, h2⟩ | ⟨es, cl, h1⟩
    · rw [hc] at h1
      simp at h1
      obtain ⟨_, rfl, _⟩ := h1
      rcases h2 with h2 | h2 | h2 | h2 | h2 | h2 | ⟨h2, _⟩ | h2 <;> (rw [h2] at ht; simp at ht)
    · rw [hc] at h1
      simp at h1
  · have := lt_of_block hc
    omega
/-- The ints that are read are none of the replica's own blocks. -/
theorem EnI.itF (h : EnI W B mb pm pc qv bv nd S bs qs Fc It) {k : Nat} (hi : It k) : ¬ enF B mb qv bv nd S Fc k := fun hk => by
  obtain ⟨⟨cur, fz, hc⟩, hn⟩ := h.itI k hi
  rcases h.kind hk with ⟨cur', t', fz', h1, h2⟩ | ⟨es, cl, h1⟩
  · rw [hc] at h1
    simp at h1
    obtain ⟨_, rfl, _⟩ := h1
    rcases h2 with h2 | h2 | h2 | h2 | h2 | h2 | ⟨_, h2⟩ | h2
    all_goals first | exact hn h2 | simp at h2
  · rw [hc] at h1
    simp at h1
/-- They stay, whatever turns the replica's blocks alone. -/
theorem EnI.its (h : EnI W B mb pm pc qv bv nd S bs qs Fc It) {G : Nat → Prop} (hb : Fb G W W') (hG : ∀ k, G k → enF B mb qv bv nd S Fc k ∨ W.heap.size ≤ k) (k : Nat) (hk : It k) : W'.heap[k]? = W.heap[k]? :=
  hb.block k (h.oldI k hk) fun hg => (hG k hg).elim (h.itF hk) fun hl => by have := h.oldI k hk; omega
theorem EnI.keep (h : EnI W B mb pm pc qv bv nd S bs qs Fc It) (hs : W.heap.size ≤ W'.heap.size) (hF : ∀ k, enF B mb qv bv nd S Fc k → W'.heap[k]? = W.heap[k]?) (hI : ∀ k, It k → W'.heap[k]? = W.heap[k]?) (hk : KpL W W') : EnI W' B mb pm pc qv bv nd S bs qs Fc It := by
  refine ⟨h.ok, h.bsl, h.qsl, h.L, h.rb, h.rq, (hF B (.inl rfl)).trans h.var, ?_, h.ca.keep hs (fun k hk' => hF k (.inr (.inr (.inr (.inr (.inr hk')))))) hI hk, h.map.same (hF mb (.inr (.inl rfl))), h.mbc, own_blk h.qrow fun b hb => hF b (.inr (.inr (.inl hb))), own_blk h.brow fun b hb => hF b (.inr (.inr (.inr (.inl hb)))), h.qb, fun a ha => (h.att a ha).keep (hF _ (.inr (.inr (.inr (.inr (.inl ⟨a, ha, rfl⟩)))))) hI hk, fun k hk' => ⟨(h.itI k hk').1.same (hI k hk'), (h.itI k hk').2⟩⟩
  obtain ⟨g, e, hg⟩ := h.md
  exact ⟨g, e, hk _ _ _ _ hg (by decide)⟩
theorem EnI.below (h : EnI W B mb pm pc qv bv nd S bs qs Fc It) (hb : Below W.heap.size W W') : EnI W' B mb pm pc qv bv nd S bs qs Fc It := h.keep hb.size (fun k hk => hb.block k (h.old k hk)) (fun k hk => hb.block k (h.oldI k hk)) (KpL.of hb)
theorem EnI.cells (h : EnI W B mb pm pc qv bv nd S bs qs Fc It) : W.cell? ⟨B, 0, none⟩ = some (.pointer pm) ∧ W.cell? ⟨B, 1, none⟩ = some (.pointer pc) ∧ W.cell? ⟨B, 2, none⟩ = some (.int .i64 S.s.q) ∧ W.cell? ⟨B, 3, none⟩ = some (.int .i64 S.s.b) ∧ W.cell? ⟨B, 4, none⟩ = some (.int .i64 S.s.ch) ∧ W.cell? ⟨B, 5, none⟩ = some (.int .u64 S.inc) ∧ W.cell? ⟨B, 6, none⟩ = some (.bool S.dr) ∧ W.cell? ⟨B, 7, none⟩ = some (.map (some mb)) ∧ W.cell? ⟨B, 8, none⟩ = some qv ∧ W.cell? ⟨B, 9, none⟩ = some bv := by
  refine ⟨?_, ?_, ?_, ?_, ?_, ?_, ?_, ?_, ?_, ?_⟩ <;> (rw [cell_of_row _ _ _ _ _ _ h.var]; rfl)
theorem EnI.frozen (h : EnI W B mb pm pc qv bv nd S bs qs Fc It) (j : Nat) : W.frozen? ⟨B, j, none⟩ = false := frozen_of_row _ _ j _ _ h.var
/-- The blocks lie apart. -/
theorem EnI.Bmb (h : EnI W B mb pm pc qv bv nd S bs qs Fc It) : B ≠ mb := fun e => by
  obtain ⟨es, cl, hm⟩ := h.map.blk
  rw [← e, h.var] at hm
  simp at hm
theorem EnI.Bq (h : EnI W B mb pm pc qv bv nd S bs qs Fc It) : qv.ownBlock ≠ some B := fun e => by
  obtain ⟨cur, hc⟩ := h.qrow.kind e
  rw [h.var] at hc
  simp at hc
theorem EnI.Bb (h : EnI W B mb pm pc qv bv nd S bs qs Fc It) : bv.ownBlock ≠ some B := fun e => by
  obtain ⟨cur, hc⟩ := h.brow.kind e
  rw [h.var] at hc
  simp at hc
theorem EnI.Bn (h : EnI W B mb pm pc qv bv nd S bs qs Fc It) {a : At} (ha : a ∈ S.L) : nd a.id ≠ B := fun e => by
  obtain ⟨pa, pc, sp, h1, _⟩ := h.att a ha
  rw [e, h.var] at h1
  simp at h1
theorem EnI.Bc (h : EnI W B mb pm pc qv bv nd S bs qs Fc It) : ¬ Fc B := fun hk => by
  rcases h.ca.kind hk with ⟨cur, t, fz, h1, h2⟩ | ⟨es, cl, h1⟩
  · rw [h.var] at h1
    simp at h1
    obtain ⟨_, rfl, _⟩ := h1
    rcases h2 with h2 | h2 | h2 | h2 | h2 <;> simp at h2
  · rw [h.var] at h1
    simp at h1
theorem EnI.mq (h : EnI W B mb pm pc qv bv nd S bs qs Fc It) : qv.ownBlock ≠ some mb := fun e => by
  obtain ⟨cur, hc⟩ := h.qrow.kind e
  obtain ⟨es, cl, hm⟩ := h.map.blk
  rw [hm] at hc
  simp at hc
theorem EnI.mbv (h : EnI W B mb pm pc qv bv nd S bs qs Fc It) : bv.ownBlock ≠ some mb := fun e => by
  obtain ⟨cur, hc⟩ := h.brow.kind e
  obtain ⟨es, cl, hm⟩ := h.map.blk
  rw [hm] at hc
  simp at hc
theorem EnI.mn (h : EnI W B mb pm pc qv bv nd S bs qs Fc It) {a : At} (ha : a ∈ S.L) : nd a.id ≠ mb := fun e => by
  obtain ⟨pa, pc, sp, h1, _⟩ := h.att a ha
  obtain ⟨es, cl, hm⟩ := h.map.blk
  rw [e, hm] at h1
  simp at h1
theorem EnI.qn (h : EnI W B mb pm pc qv bv nd S bs qs Fc It) {a : At} (ha : a ∈ S.L) : qv.ownBlock ≠ some (nd a.id) := fun e => by
  obtain ⟨cur, hc⟩ := h.qrow.kind e
  obtain ⟨pa, pc, sp, h1, _⟩ := h.att a ha
  rw [hc] at h1
  simp at h1
theorem EnI.bn (h : EnI W B mb pm pc qv bv nd S bs qs Fc It) {a : At} (ha : a ∈ S.L) : bv.ownBlock ≠ some (nd a.id) := fun e => by
  obtain ⟨cur, hc⟩ := h.brow.kind e
  obtain ⟨pa, pc, sp, h1, _⟩ := h.att a ha
  rw [hc] at h1
  simp at h1
theorem EnI.cn (h : EnI W B mb pm pc qv bv nd S bs qs Fc It) {a : At} (ha : a ∈ S.L) : ¬ Fc (nd a.id) := fun hk => by
  obtain ⟨pa, pc, sp, g1, _⟩ := h.att a ha
  rcases h.ca.kind hk with ⟨cur, t, fz, h1, h2⟩ | ⟨es, cl, h1⟩
  · rw [g1] at h1
    simp at h1
    obtain ⟨_, rfl, _⟩ := h1
    rcases h2 with h2 | h2 | h2 | h2 | h2 <;> simp at h2
  · rw [g1] at h1
    simp at h1
theorem EnI.cq (h : EnI W B mb pm pc qv bv nd S bs qs Fc It) {k : Nat} (e : qv.ownBlock = some k) : ¬ Fc k := fun hk => by
  obtain ⟨cur', hc⟩ := h.qrow.kind e
  rcases h.ca.kind hk with ⟨cur, t, fz, h1, h2⟩ | ⟨es, cl, h1⟩
  · rw [hc] at h1
    simp at h1
    obtain ⟨_, rfl, _⟩ := h1
    rcases h2 with h2 | h2 | h2 | h2 | h2 <;> simp at h2
  · rw [hc] at h1
    simp at h1
theorem EnI.cb (h : EnI W B mb pm pc qv bv nd S bs qs Fc It) {k : Nat} (e : bv.ownBlock = some k) : ¬ Fc k := fun hk => by
  obtain ⟨cur', hc⟩ := h.brow.kind e
  rcases h.ca.kind hk with ⟨cur, t, fz, h1, h2⟩ | ⟨es, cl, h1⟩
  · rw [hc] at h1
    simp at h1
    obtain ⟨_, rfl, _⟩ := h1
    rcases h2 with h2 | h2 | h2 | h2 | h2 <;> simp at h2
  · rw [hc] at h1
    simp at h1
theorem EnI.ndi (h : EnI W B mb pm pc qv bv nd S bs qs Fc It) {a b : At} (ha : a ∈ S.L) (hb : b ∈ S.L) (e : nd a.id = nd b.id) : a.id = b.id := by
  obtain ⟨pa, pc, sp, h1, _⟩ := h.att a ha
  obtain ⟨pa', pc', sp', h2, _⟩ := h.att b hb
  rw [e, h2] at h1
  simp [AtV] at h1
  exact h1.1.symm
end
/-- The same, whatever its parts are. -/
def EnX (W : World) (p : Option Addr) (S : Rs) (F It : Nat → Prop) : Prop :=
  ∃ B mb pm pc qv bv nd bs qs Fc, p = some ⟨B, 0, none⟩ ∧ EnI W B mb pm pc qv bv nd S bs qs Fc It ∧ F = enF B mb qv bv nd S Fc
/-- The replica at a pointer: its calls turn the blocks F alone; of blocks of ints it reads those of It alone. -/
structure EnAt (W : World) (p : Option Addr) (S : Rs) (F It : Nat → Prop) : Prop where
  ptr : ∃ g, p = some ⟨g, 0, none⟩
  ok : OkR S
  old : ∀ k, F k → k < W.heap.size
  oldI : ∀ k, It k → k < W.heap.size
  rest : EnX W p S F It
theorem EnI.at {W : World} {B mb : Nat} {pm pc : Option Addr} {qv bv : Value} {nd : Int → Nat} {S : Rs} {bs qs : List At} {Fc It : Nat → Prop} (h : EnI W B mb pm pc qv bv nd S bs qs Fc It) : EnAt W (some ⟨B, 0, none⟩) S (enF B mb qv bv nd S Fc) It :=
  ⟨⟨B, rfl⟩, h.ok, h.old, h.oldI, B, mb, pm, pc, qv, bv, nd, bs, qs, Fc, rfl, h, rfl⟩
theorem EnAt.keep {W W' : World} {p : Option Addr} {S : Rs} {F It : Nat → Prop} (h : EnAt W p S F It) (hs : W.heap.size ≤ W'.heap.size) (hF : ∀ k, F k → W'.heap[k]? = W.heap[k]?) (hI : ∀ k, It k → W'.heap[k]? = W.heap[k]?) (hk : KpL W W') : EnAt W' p S F It := by
  obtain ⟨B, mb, pm, pc, qv, bv, nd, bs, qs, Fc, rfl, h1, rfl⟩ := h.rest
  exact (h1.keep hs hF hI hk).at
theorem EnAt.below {W W' : World} {p : Option Addr} {S : Rs} {F It : Nat → Prop} (h : EnAt W p S F It) (hb : Below W.heap.size W W') : EnAt W' p S F It := h.keep hb.size (fun k hk => hb.block k (h.old k hk)) (fun k hk => hb.block k (h.oldI k hk)) (KpL.of hb)
/-- What a call that turns the replica leaves. -/
def EnG (w : World) (F It Ex : Nat → Prop) (p : Option Addr) (S : Rs) (w' : World) : Prop := ∃ F' It', EnAt w' p S F' It' ∧ (∀ k, F' k → F k ∨ w.heap.size ≤ k) ∧ (∀ k, It' k → It k ∨ Ex k ∨ w.heap.size ≤ k) ∧ Fb F w w'
/-- What a call that tells messages hands back and leaves. -/
def EnO (w : World) (F It Ex : Nat → Prop) (p : Option Addr) (S : Rs) (ms : List Mg) (e : Ending) (w' : World) : Prop := ∃ a cap F' It', e = .returned (.slice a ms.length cap) ∧ MgsAt w.heap.size w' a ms.length cap ms ∧ (∀ q, a = some q → w.heap.size ≤ q.block ∧ ¬ F' q.block) ∧ EnAt w' p S F' It' ∧ (∀ k, F' k → F k ∨ w.heap.size ≤ k) ∧ (∀ k, It' k → It k ∨ Ex k ∨ w.heap.size ≤ k) ∧ Fb F w w'
/-- Where a job's tokens lie. -/
def mJ (j : Jb) (k : Nat) : Prop := 0 < j.lp ∧ mF j.ap k
end Go.Proofs.YtjgggialnegddaaGreat
namespace Go.Proofs.YtjgggialnegddaaGreat
open Go.RowKit Go.Maps
set_option linter.unusedVariables false
set_option maxRecDepth 1000000

section
variable {W W' : World} {B mb : Nat} {pm pc : Option Addr} {qv bv : Value} {nd : Int → Nat} {S : Rs} {bs qs : List At} {Fc It : Nat → Prop}
/-- The struct, the map and the rows. -/
def reF (B mb : Nat) (qv bv : Value) (k : Nat) : Prop := k = B ∨ k = mb ∨ qv.ownBlock = some k ∨ bv.ownBlock = some k
theorem reF_en {k : Nat} (h : reF B mb qv bv k) : enF B mb qv bv nd S Fc k := by
  rcases h with h | h | h | h
  · exact .inl h
  · exact .inr (.inl h)
  · exact .inr (.inr (.inl h))
  · exact .inr (.inr (.inr (.inl h)))
theorem EnI.re (h : EnI W B mb pm pc qv bv nd S bs qs Fc It) (hb : Fb (reF B mb qv bv) W W') {S' : Rs} {bs' qs' : List At} {qv' bv' : Value} (ok : OkR S') (bsl : (bs'.length : Int) ≤ S'.s.b) (qsl : (qs'.length : Int) ≤ S'.s.q) (hL : S'.L = bs' ++ qs') (rb : ∀ a ∈ bs', a.run = true) (rq : ∀ a ∈ qs', a.run = false)
    (hs : S'.s = S.s) (tk : S.tk ≤ S'.tk) (var : W'.heap[B]? = some (.cells (RpV pm pc S' mb qv' bv') 73 (0, 0))) (map : AmAt W' mb S'.L.length (mapF S'.L nd)) (qrow : UQ W' qv' (qs'.map (·.id))) (brow : UQ W' bv' (bs'.map (·.id))) (qb : ∀ k, qv'.ownBlock = some k → bv'.ownBlock ≠ some k)
    (sub : ∀ a ∈ S'.L, ∃ a0 ∈ S.L, a = { a0 with run := a.run }) : EnI W' B mb pm pc qv' bv' nd S' bs' qs' Fc It := by
  have hk : KpL W W' := h.kpl hb fun k hk => .inl (reF_en hk)
  have hI := h.its hb fun k hk => .inl (reF_en hk)
  have hc : ∀ k, Fc k → W'.heap[k]? = W.heap[k]? := fun k hk => hb.block k (h.ca.old k hk) fun hg => by
    rcases hg with e | e | e | e
    · exact h.Bc (e ▸ hk)
    · exact h.mbc (e ▸ hk)
    · exact h.cq e hk
    · exact h.cb e hk
  refine ⟨ok, bsl, qsl, hL, rb, rq, var, ?_, by rw [hs]; exact (h.ca.keep hb.size hc hI hk).mono (fun _ hk => hk) tk, map, h.mbc, qrow, brow, qb, fun a ha => ?_, fun k hk' => ⟨(h.itI k hk').1.same (hI k hk'), (h.itI k hk').2⟩⟩
  · obtain ⟨g, e, hg⟩ := h.md
    rw [hs]
    exact ⟨g, e, hk _ _ _ _ hg (by decide)⟩
  · obtain ⟨a0, h0, e⟩ := sub a ha
    have hid : a.id = a0.id := by rw [e]
    have hlt : nd a0.id < W.heap.size := h.old _ (.inr (.inr (.inr (.inr (.inl ⟨a0, h0, rfl⟩)))))
    rw [hs, e]
    refine AtIn.run ((h.att a0 h0).keep (hb.block _ hlt fun hg => ?_) hI hk) _
    rcases hg with e | e | e | e
    · exact h.Bn h0 e
    · exact h.mn h0 e
    · exact h.qn h0 e
    · exact h.bn h0 e
theorem emade_yes (h : EnI W B mb pm pc qv bv nd S bs qs Fc It) : Calls Tryz.prog 36 #[.pointer (some ⟨B, 0, none⟩)] W fun e w' => e = .returned (.bool true) ∧ W = w' := by
  obtain ⟨g, rfl, _⟩ := h.md
  have c0 := h.cells.1
  clear h
  go_enter Tryz.func36, Tryz.ntmps36
  go_wp2
  go_ret
  exact ⟨rfl, rfl⟩
theorem einc_any (h : EnI W B mb pm pc qv bv nd S bs qs Fc It) : Calls Tryz.prog 21 #[.pointer (some ⟨B, 0, none⟩)] W fun e w' => e = .returned (.int .u64 S.inc) ∧ W = w' := by
  have hM := emade_yes h
  have c5 := h.cells.2.2.2.2.2.1
  clear h
  go_enter Tryz.func21, Tryz.ntmps21
  go_wp2_with fail
  refine hM.mono ?_
  rintro e w' ⟨rfl, rfl⟩
  clear hM
  go_wp2
  go_ret
  exact ⟨rfl, rfl⟩
theorem eload_any (h : EnI W B mb pm pc qv bv nd S bs qs Fc It) : Calls Tryz.prog 22 #[.pointer (some ⟨B, 0, none⟩)] W fun e w' => e = .returned (.int .i64 S.L.length) ∧ W = w' := by
  have hM := emade_yes h
  have c7 := h.cells.2.2.2.2.2.2.2.1
  have hl := h.map.len 3
  clear h
  generalize S.L.length = n at *
  go_enter Tryz.func22, Tryz.ntmps22
  go_wp2_with fail
  refine hM.mono ?_
  rintro e w' ⟨rfl, rfl⟩
  clear hM
  go_wp2
  go_ret
  exact ⟨rfl, rfl⟩
theorem edrains_any (h : EnI W B mb pm pc qv bv nd S bs qs Fc It) : Calls Tryz.prog 23 #[.pointer (some ⟨B, 0, none⟩)] W fun e w' => e = .returned (.bool S.dr) ∧ Below W.heap.size W w' := by
  have hM := emade_yes h
  have c6 := h.cells.2.2.2.2.2.2.1
  clear h
  go_enter Tryz.func23, Tryz.ntmps23
  go_wp2_with fail
  refine hM.mono ?_
  rintro e w' ⟨rfl, rfl⟩
  clear hM
  go_wp2
  go_ret
  exact ⟨rfl, Below.refl _ _⟩
theorem ecached_any (h : EnI W B mb pm pc qv bv nd S bs qs Fc It) : Calls Tryz.prog 24 #[.pointer (some ⟨B, 0, none⟩)] W fun e w' => ∃ n : Nat, e = .returned (.int .i64 n) ∧ (n : Int) ≤ max S.s.pg 0 ∧ Below W.heap.size W w' := by
  have hM := emade_yes h
  have c1 := h.cells.2.1
  have hL := ca_len W h.ca
  clear h
  go_enter Tryz.func24, Tryz.ntmps24
  go_wp2_with fail
  refine hM.mono ?_
  rintro e w' ⟨rfl, rfl⟩
  clear hM
  go_wp2_with fail
  refine hL.mono ?_
  rintro e w1 ⟨n, rfl, hn, hb⟩
  have HN := hid hn
  have HB := hid hb
  clear hL hn hb c1
  go_wp2
  go_ret
  exact ⟨n, rfl, HN.out, HB.out⟩
/-- The same world but for a cell of the struct. -/
theorem EnI.turnB (h : EnI W B mb pm pc qv bv nd S bs qs Fc It) (i : Nat) (u : Value) {S' : Rs} (hv : (RpV pm pc S mb qv bv).setIfInBounds i u = RpV pm pc S' mb qv bv) (ok : OkR S') (hs : S'.s = S.s) (hL : S'.L = S.L) (tk : S.tk ≤ S'.tk) : EnI (W.setCell ⟨B, i, none⟩ u) B mb pm pc qv bv nd S' bs qs Fc It := by
  have hb : Fb (at1 B) W (W.setCell ⟨B, i, none⟩ u) := Fb.set (by exact rfl) _
  refine h.re (hb.mono fun k hk => .inl hk) ok (by rw [hs]; exact h.bsl) (by rw [hs]; exact h.qsl) (by rw [hL]; exact h.L) h.rb h.rq hs tk ?_ ?_ (own_blk h.qrow fun b e => hb.block b ?_ ?_) (own_blk h.brow fun b e => hb.block b ?_ ?_) h.qb fun a ha => ⟨a, by rw [← hL]; exact ha, by cases a; rfl⟩
  · have := row_set (k := i) (u := u) h.var
    rw [hv] at this
    exact this
  · rw [hL]
    exact h.map.same (hb.block _ h.map.lt fun e => h.Bmb (Eq.symm e))
  · exact (World.ownsRow.lt h.qrow b e).2
  · exact fun e2 => h.Bq (by rw [e, show b = B from e2])
  · exact (World.ownsRow.lt h.brow b e).2
  · exact fun e2 => h.Bb (by rw [e, show b = B from e2])
theorem EnI.turnB_fb (h : EnI W B mb pm pc qv bv nd S bs qs Fc It) (i : Nat) (u : Value) : Fb (enF B mb qv bv nd S Fc) W (W.setCell ⟨B, i, none⟩ u) := Fb.set (by exact .inl rfl) _
/-- What Clear leaves of all else. -/
theorem EnI.cleared (h : EnI W B mb pm pc qv bv nd S bs qs Fc It) (hL : S.L = []) {Fc' : Nat → Prop} (hc : CaAt W' pc S.s S.tk Fc' (fun _ => False)) (hF : ∀ k, Fc' k → Fc k ∨ W.heap.size ≤ k) (hb : Fb Fc W W') : EnI W' B mb pm pc qv bv nd S bs qs Fc' (fun _ => False) := by
  have hone : ∀ k o, W.heap[k]? = some o → ¬ Fc k → W'.heap[k]? = some o := fun k o h1 h2 => hb.one h1 h2
  have hk : KpL W W' := h.kpl hb fun k hk => .inl (.inr (.inr (.inr (.inr (.inr hk)))))
  refine ⟨h.ok, h.bsl, h.qsl, h.L, h.rb, h.rq, hone _ _ h.var h.Bc, ?_, hc, h.map.same (hb.block _ h.map.lt h.mbc), fun hk => ?_, own_blk h.qrow fun b e => hb.block b (World.ownsRow.lt h.qrow b e).2 (h.cq e), own_blk h.brow fun b e => hb.block b (World.ownsRow.lt h.brow b e).2 (h.cb e), h.qb, (fun a ha => by rw [hL] at ha; cases ha), fun k hk => hk.elim⟩
  · obtain ⟨g, e, hg⟩ := h.md
    exact ⟨g, e, hk _ _ _ _ hg (by decide)⟩
  · rcases hF _ hk with h' | h'
    · exact h.mbc h'
    · have := h.map.lt
      omega
theorem ecrash_any (h : EnI W B mb pm pc qv bv nd S bs qs Fc It) : Calls Tryz.prog 16 #[.pointer (some ⟨B, 0, none⟩)] W fun e w' => e = .returned (.int .u64 (min (S.inc + 1) 9223372036854775808)) ∧ EnG W (enF B mb qv bv nd S Fc) It (fun _ => False) (some ⟨B, 0, none⟩) { S with inc := min (S.inc + 1) 9223372036854775808, dr := false, L := [] } w' := by
  obtain ⟨i1, i2⟩ := h.ok.inc
  obtain ⟨x, hx⟩ : ∃ x, min (S.inc + 1) 9223372036854775808 = x := ⟨_, rfl⟩
  rw [hx]
  have hset := h.ok.set
  have hM := emade_yes h
  obtain ⟨w1, e1, hm1, hb1⟩ := h.map.wipe 0
  obtain ⟨c0, c1, c2, c3, c4, c5, c6, c7, c8, c9⟩ := h.cells
  have hv1 : w1.heap[B]? = some (.cells (RpV pm pc S mb qv bv) 73 (0, 0)) := hb1.one h.var fun e => h.Bmb e
  have ok1 : OkR { S with L := [] } := ⟨hset, h.ok.inc, List.nodup_nil, by have := h.ok.few; simp only [List.length_nil]; have := h.bsl; have := h.qsl; omega, fun a ha => by cases ha⟩
  obtain ⟨w3, hw3⟩ : ∃ w3, w3 = (w1.setCell ⟨B, 8, none⟩ (.slice none 0 0)).setCell ⟨B, 9, none⟩ (.slice none 0 0) := ⟨_, rfl⟩
  have hb3 : Fb (reF B mb qv bv) W w3 := by
    rw [hw3]
    exact ((hb1.mono fun k hk => show reF B mb qv bv k from .inr (.inl hk)).trans (Fb.set (F := reF B mb qv bv) (by exact .inl rfl) _) fun k hk => .inl hk).trans (Fb.set (F := reF B mb qv bv) (by exact .inl rfl) _) fun k hk => .inl hk
  have hv3 : w3.heap[B]? = some (.cells (RpV pm pc { S with L := [] } mb (.slice none 0 0) (.slice none 0 0)) 73 (0, 0)) := by
    rw [hw3]
    exact row_set (k := 9) (u := .slice none 0 0) (row_set (k := 8) (u := .slice none 0 0) hv1)
  have hm3 : AmAt w3 mb 0 (mapF [] nd) := by
    have : AmAt w1 mb 0 (mapF [] nd) := hm1
    refine this.same ?_
    rw [hw3, Below.heap_setCell _ _ _ _ (by exact Ne.symm h.Bmb), Below.heap_setCell _ _ _ _ (by exact Ne.symm h.Bmb)]
  have h3 : EnI w3 B mb pm pc (.slice none 0 0) (.slice none 0 0) nd { S with L := [] } [] [] Fc It := h.re hb3 ok1 (by have := h.bsl; simp only [List.length_nil]; omega) (by have := h.qsl; simp only [List.length_nil]; omega) rfl (fun a ha => by cases ha) (fun a ha => by cases ha) rfl (Nat.le_refl _) hv3 hm3 (World.ownsRow_nil _ _ _ _) (World.ownsRow_nil _ _ _ _) (fun k e => by cases e) (fun a ha => by cases ha)
  have hC := ca_clear w3 h3.ca
  have H3 := hid h3
  have HB3 := hid (hb3.mono (G := enF B mb qv bv nd S Fc) fun k hk => reF_en hk)
  have HX : Hid (∀ k, enF B mb (.slice none 0 0) (.slice none 0 0) nd { S with L := [] } Fc k → enF B mb qv bv nd S Fc k) := fun k hk => by
    rcases hk with h' | h' | h' | h' | ⟨a, ha, _⟩ | h'
    · exact .inl h'
    · exact .inr (.inl h')
    · cases h'
    · cases h'
    · cases ha
    · exact .inr (.inr (.inr (.inr (.inr h'))))
  have f8 : w1.frozen? ⟨B, 8, none⟩ = false := frozen_of_row _ _ 8 _ _ hv1
  have d8 : w1.cell? ⟨B, 8, none⟩ = some qv := by rw [cell_of_row _ _ _ _ _ _ hv1]; rfl
  have f9 : w1.frozen? ⟨B, 9, none⟩ = false := frozen_of_row _ _ 9 _ _ hv1
  have d9 : w1.cell? ⟨B, 9, none⟩ = some bv := by rw [cell_of_row _ _ _ _ _ _ hv1]; rfl
  have d1 := h3.cells.2.1
  clear h h3 hm1 hb1 hv1 hb3 hv3 hm3 c0 c1 c2 c3 c4 c5 c6 c8 c9
  go_enter Tryz.func16, Tryz.ntmps16
  go_wp2_with fail
  refine hM.mono ?_
  rintro e w' ⟨rfl, rfl⟩
  clear hM
  rw [hw3] at d1
  go_wp2_with fail
  rw [← hw3]
  refine hC.mono ?_
  rintro e w4 ⟨Fc', rfl, g1, g2, g3⟩
  have h4 := H3.out.cleared rfl g1 g2 g3
  have HF4 : Hid (∀ k, enF B mb (.slice none 0 0) (.slice none 0 0) nd { S with L := [] } Fc' k → enF B mb qv bv nd S Fc k ∨ W.heap.size ≤ k) := fun k hk => by
    rcases hk with h' | h' | h' | h' | ⟨a, ha, _⟩ | h'
    · exact .inl (.inl h')
    · exact .inl (.inr (.inl h'))
    · cases h'
    · cases h'
    · cases ha
    · rcases g2 k h' with h'' | h''
      · exact .inl (.inr (.inr (.inr (.inr (.inr h'')))))
      · exact .inr (Nat.le_trans HB3.out.size h'')
  have HB4 : Hid (Fb (enF B mb qv bv nd S Fc) W w4) := HB3.out.trans g3 fun k hk => .inl (.inr (.inr (.inr (.inr (.inr hk)))))
  have HSx : Hid (∀ (x : Int) (W6 : World), EnI W6 B mb pm pc (.slice none 0 0) (.slice none 0 0) nd { S with inc := x, dr := false, L := [] } [] [] Fc' (fun _ => False) → Fb (at1 B) w4 W6 → EnG W (enF B mb qv bv nd S Fc) It (fun _ => False) (some ⟨B, 0, none⟩) { S with inc := x, dr := false, L := [] } W6) := fun x W6 h6 hb6 =>
    ⟨_, _, h6.at, HF4.out, fun k hk => hk.elim, HB4.out.trans hb6 fun k hk => .inl (.inl hk)⟩
  clear hC g1 g2 g3 H3 HB3 HX d1 hw3 e1 d8 d9 f8 f9
  have c5 := h4.cells.2.2.2.2.2.1
  have c6 := h4.cells.2.2.2.2.2.2.1
  have f6 := h4.frozen 6
  have f5 := h4.frozen 5
  have h5 : EnI (w4.setCell ⟨B, 6, none⟩ (.bool false)) B mb pm pc (.slice none 0 0) (.slice none 0 0) nd { S with dr := false, L := [] } [] [] Fc' (fun _ => False) := h4.turnB 6 (.bool false) rfl ⟨hset, ⟨i1, i2⟩, ok1.one, ok1.few, ok1.ok⟩ rfl rfl (Nat.le_refl _)
  by_cases hi : S.inc < 9223372036854775808
  · obtain rfl : x = S.inc + 1 := by omega
    have h6 : EnI ((w4.setCell ⟨B, 6, none⟩ (.bool false)).setCell ⟨B, 5, none⟩ (.int .u64 (S.inc + 1))) B mb pm pc (.slice none 0 0) (.slice none 0 0) nd { S with inc := S.inc + 1, dr := false, L := [] } [] [] Fc' (fun _ => False) := h5.turnB 5 (.int .u64 (S.inc + 1)) rfl ⟨hset, by constructor <;> (simp only; omega), ok1.one, ok1.few, ok1.ok⟩ rfl rfl (Nat.le_refl _)
    have HR := hid (HSx.out _ _ h6 ((Fb.set (F := at1 B) (by exact rfl) _).trans (Fb.set (F := at1 B) (by exact rfl) _) fun k hk => .inl hk))
    clear h4 h5 h6 HSx HB4 HF4 ok1
    simp only at c5
    go_wp2
    go_ret
    exact ⟨rfl, HR.out⟩
  · obtain rfl : x = S.inc := by omega
    have HR := hid (HSx.out _ _ h5 (Fb.set (F := at1 B) (by exact rfl) _))
    clear h4 h5 HSx HB4 HF4 ok1
    simp only at c5
    go_wp2
    go_ret
    exact ⟨rfl, HR.out⟩
end
end Go.Proofs.YtjgggialnegddaaGreat
