/-
  Tables (Tbl); contracts: each and madeOf over a table, Mul: of each row its product with a vector.
-/
import Derived.Test.YtehmdlipacbpfaaGreatSofts
namespace Go.Proofs.YtehmdlipacbpfaaGreat
open Go.RowKit
set_option linter.unusedVariables false
set_option maxRecDepth 1000000

theorem count2_any (a : Option Addr) (len cap : Nat) (w : World) (hlen : len ≤ 1000) :
    Calls Tryz.prog 92 #[.slice a len cap] w fun e w' => e = .returned (.int .i64 len) ∧ w' = w := by
  go_enter Tryz.func92, Tryz.ntmps92
  go_wp2
  go_ret
  exact ⟨rfl, rfl⟩
theorem each2_any (fn : Nat) (caps : Array Value) (a : Option Addr) (len cap : Nat) (hs : List Hd) (w : World) (hlen : len ≤ 1000) (I : Nat → World → Prop)
    (hE : ∀ args w, (callFunc fn args).run Tryz.prog w = .ok (.enter fn args) w) (hR : ∀ k wr, I k wr → Rd2 wr a len cap hs) (h0 : I 0 w)
    (hS : ∀ k wr, k < len → I k wr → Calls Tryz.prog fn (#[.int .i64 (k : Int), .slice (hs[k]?.getD (none, 0, 0)).1 (hs[k]?.getD (none, 0, 0)).2.1 (hs[k]?.getD (none, 0, 0)).2.2] ++ caps) wr fun e w' => e = .returned (.tuple #[]) ∧ I (k + 1) w') :
    Calls Tryz.prog 93 #[.slice a len cap, .func (.func fn) #[] caps] w fun e w' => e = .returned (.tuple #[]) ∧ I len w' := by
  have hr0 := hR 0 w h0
  have hroom := hr0.room
  have hmost := hr0.most
  have hbare := hr0.bare
  clear hr0
  have H0 := hid h0
  have HR := hid hR
  have HS := hid hS
  clear h0 hR hS
  go_enter Tryz.func93, Tryz.ntmps93
  cases a with
  | none =>
    obtain ⟨rfl, rfl⟩ := hbare rfl
    go_wp2_with fail
    refine (count2_any _ _ _ _ (by omega)).mono ?_
    rintro e w' ⟨rfl, rfl⟩
    go_wp2_with fail
    go_loopw [11] (fun i wr => ∃ k : Nat, k = 0 ∧ i = .int .i64 k ∧ Hid (I k wr)) (fun i _ => 0 - (intOf i).toNat)
    case atStart => exact ⟨0, rfl, rfl, H0⟩
    case round =>
      obtain ⟨k, rfl, rfl, HI⟩ := hrel
      go_wp2
      go_end0
      exact ⟨rfl, HI.out⟩
  | some ad =>
    clear hbare
    go_wp2_with fail
    refine (count2_any _ _ _ _ (by omega)).mono ?_
    rintro e w' ⟨rfl, rfl⟩
    go_wp2_with fail
    go_loopw [11] (fun i wr => ∃ k : Nat, k ≤ len ∧ i = .int .i64 k ∧ Hid (I k wr)) (fun i _ => len - (intOf i).toNat)
    case atStart => exact ⟨0, Nat.zero_le _, rfl, H0⟩
    case round =>
      obtain ⟨k, hk, rfl, HI⟩ := hrel
      by_cases hlt : k < len
      · obtain ⟨b, off, hab, hc⟩ := (HR.out k wr HI.out).cell k hlt
        cases hab
        have hC := HS.out k wr hlt HI.out
        generalize hs[k]?.getD (none, 0, 0) = z at *
        obtain ⟨z1, z2, z3⟩ := z
        simp only at hc hC
        go_wp2_with fail
        refine hC.mono ?_
        rintro e w2 ⟨rfl, hI2⟩
        have HI2 := hid hI2
        clear hI2 hC
        go_wp2_with fail
        go_round
        case rel => exact ⟨k + 1, by omega, by go_num, HI2⟩
        case measure => simp [intOf]; omega
      · obtain rfl : k = len := by omega
        go_wp2
        go_end0
        exact ⟨rfl, HI.out⟩

theorem made2_any (fn : Nat) (caps : Array Value) (hE : ∀ args w, (callFunc fn args).run Tryz.prog w = .ok (.enter fn args) w) (k : Nat) (x : Hd) (y : Int) (Bo Bm base g m : Nat) (us : List Int) (wr : World) (hm : m ≤ 1000)
    (ho : wr.heap[Bo]? = some (.cells #[.func (.func fn) #[] caps] 92 (0, 0))) (hq : wr.heap[Bm]? = some (.cells #[.slice (some ⟨g, 0, none⟩) m m] 25 (0, 0)))
    (hO : OwnK 2 base g m m us wr) (hk : k < m) (hgo : Bo ≠ g) (hgm : Bm ≠ g)
    (hC : Calls Tryz.prog fn (#[.slice x.1 x.2.1 x.2.2] ++ caps) wr.drew fun e w' => e = .returned (.int .i64 y) ∧ Below wr.heap.size wr w') :
    Calls Tryz.prog 94 #[.int .i64 k, .slice x.1 x.2.1 x.2.2, .pointer (some ⟨Bo, 0, none⟩), .pointer (some ⟨Bm, 0, none⟩)] wr fun e w' => e = .returned (.tuple #[]) ∧ OwnK 2 base g m m (us.set k y) w' ∧ But [g] wr w' := by
  obtain ⟨x1, x2, x3⟩ := x
  simp only at hC ⊢
  have cd := cell_of_one ho
  have cq := cell_of_one hq
  have HO := hid hO
  have HK : Hid (∀ W, But [g] wr W → W.cell? ⟨Bo, 0, none⟩ = some (.func (.func fn) #[] caps) ∧ W.cell? ⟨Bm, 0, none⟩ = some (.slice (some ⟨g, 0, none⟩) m m)) :=
    fun W h => ⟨h.cell cd (by simpa using hgo), h.cell cq (by simpa using hgm)⟩
  clear ho hq hO hgo hgm
  go_enter Tryz.func94, Tryz.ntmps94
  go_wp2_with fail
  go_region_held3 (fun W : World => W.cell? ⟨Bo, 0, none⟩ = some (.func (.func fn) #[] caps) ∧ W.cell? ⟨Bm, 0, none⟩ = some (.slice (some ⟨g, 0, none⟩) m m)) (first | exact ⟨cd, cq⟩ | assumption | exact HK.out _ (But.of hB) | exact HK.out _ ((But.of hB).set (p := ⟨g, k, none⟩) (List.mem_singleton.2 rfl) _)) (first | (refine hC.mono ?_; rintro e w2 ⟨rfl, hB⟩; have HO2 := hid (HO.out.stays hB); have ck := HO2.out.cell hk; have fk := HO2.out.frozen k))
  have HS : Hid (OwnK 2 base g m m (us.set k y) (w2.setCell ⟨g, k, none⟩ (.int .i64 y))) := HO2.out.set k y
  have HB : Hid (But [g] wr (w2.setCell ⟨g, k, none⟩ (.int .i64 y))) := (But.of hB).set (p := ⟨g, k, none⟩) (List.mem_singleton.2 rfl) _
  clear HK cd cq HO HO2 ck fk hB hC
  go_wp2
  go_end0
  exact ⟨rfl, HS.out, HB.out⟩

theorem madeof2_any (fn : Nat) (caps : Array Value) (hE : ∀ args w, (callFunc fn args).run Tryz.prog w = .ok (.enter fn args) w) (a : Option Addr) (len cap : Nat) (hs : List Hd) (w : World) (ha : Rd2 w a len cap hs) (hlen : len ≤ 1000) (f : Nat → Int)
    (hC : ∀ k wr, k < len → Below w.heap.size w wr → Calls Tryz.prog fn (#[.slice (hs[k]?.getD (none, 0, 0)).1 (hs[k]?.getD (none, 0, 0)).2.1 (hs[k]?.getD (none, 0, 0)).2.2] ++ caps) wr fun e w' => e = .returned (.int .i64 (f k)) ∧ Below wr.heap.size wr w') :
    Calls Tryz.prog 60 #[.slice a len cap, .func (.func fn) #[] caps] w fun e w' => Made w len (rowK f len) e w' := by
  have HM : Hid (∀ W, MadeAt w fn caps 92 w.heap.size len (List.replicate len 0) W → Calls Tryz.prog 93 #[.slice a len cap, .func (.func 94) #[] #[.pointer (some ⟨w.heap.size, 0, none⟩), .pointer (some ⟨w.heap.size + 2, 0, none⟩)]] W
      fun e w' => e = .returned (.tuple #[]) ∧ MadeAt w fn caps 92 w.heap.size len (rowK f len) w') := by
    intro W h0
    refine (each2_any 94 _ a len cap hs W hlen (fun k W => MadeAt w fn caps 92 w.heap.size len (rowK f k ++ List.replicate (len - k) 0) W) (enters_of Tryz.func94 (by kernel_rfl) rfl) ?_ ?_ ?_).mono ?_
    · intro k wr hk
      exact ha.below hk.old
    · exact h0
    · intro k wr hk hI
      have hdr : Below wr.heap.size wr wr.drew := (Below.refl _ _).drew
      refine (made2_any fn caps hE k _ (f k) w.heap.size (w.heap.size + 2) w.heap.size (w.heap.size + 1) len _ wr hlen hI.fun_ hI.var hI.own hk (by omega) (by omega) ?_).mono ?_
      · exact (hC k _ hk (hI.old.trans (hdr.mono hI.old.size))).mono fun e w' ⟨h1, h2⟩ => ⟨h1, hdr.trans (h2.mono (Nat.le_refl _))⟩
      · rintro e w' ⟨h1, h2, h3⟩
        refine ⟨h1, ?_, h3.one hI.fun_ (by simp), h3.one hI.var (by simp), ?_⟩
        · exact hI.old.trans (h3.to (fun s hs => by rw [List.mem_singleton.1 hs]; omega) hI.old.size)
        · rw [← rowK_set f hk]; exact h2
    · rintro e w' ⟨h1, h2⟩
      rw [Nat.sub_self, List.replicate_zero, List.append_nil] at h2
      exact ⟨h1, h2⟩
  have hmk := make_ints (w.alloc (.cells #[.func (.func fn) #[] caps] 92)) len (by omega)
  clear ha hC
  go_enter Tryz.func60, Tryz.ntmps60
  go_wp2_with fail
  refine (count2_any _ _ _ _ hlen).mono ?_
  rintro e w' ⟨rfl, rfl⟩
  go_wp2_with fail
  refine (HM.out _ (MadeAt.new _ _ _ _ _ hlen)).mono ?_
  rintro e w' ⟨rfl, h⟩
  have cv := cell_of_one h.var
  have HO := hid h.own
  have HB := hid h.old
  clear h HM hmk
  go_wp2
  go_ret
  exact ⟨_, _, rfl, HO.out, HB.out⟩

theorem mul1_any (a b : Option Addr) (la ca lb cb : Nat) (xs ys : List Int) (B : Nat) (w : World) (ha : Reads .i64 w a la ca xs) (hb : Reads .i64 w b lb cb ys) (hla : la ≤ 1000) (hlb : lb ≤ 1000)
    (hB : w.heap[B]? = some (.cells #[.slice b lb cb] 25 (0, 0))) :
    Calls Tryz.prog 61 #[.slice a la ca, .pointer (some ⟨B, 0, none⟩)] w fun e w' => e = .returned (.int .i64 (dotK xs ys (min la lb))) ∧ Below w.heap.size w w' := by
  have cs := cell_of_one hB
  have hD := dot_any a b la ca lb cb xs ys w ha hb hla hlb
  clear hB ha hb
  go_enter Tryz.func61, Tryz.ntmps61
  go_wp2_with fail
  refine hD.mono ?_
  rintro e w' ⟨rfl, hb⟩
  have HB := hid hb
  clear hb hD
  go_wp2
  go_ret
  exact ⟨rfl, HB.out⟩
/-- Of each row its product with a vector. -/
def mulF (xss : List (List Int)) (ys : List Int) (i : Nat) : Int := dotK (xss[i]?.getD []) ys (min (xss[i]?.getD []).length ys.length)
theorem vmul_any (a b : Option Addr) (la ca lb cb : Nat) (hs : List Hd) (xss : List (List Int)) (ys : List Int) (w : World) (ha : Tbl w a la ca hs xss) (hb : Reads .i64 w b lb cb ys) (hla : la ≤ 1000) (hlb : lb ≤ 1000) :
    Calls Tryz.prog 24 #[.slice a la ca, .slice b lb cb] w fun e w' => Made w la (rowK (mulF xss ys) la) e w' := by
  have hbl : Below w.heap.size w (w.alloc (.cells #[.slice b lb cb] 25)) := (Below.refl _ _).alloc (Nat.le_refl _) _
  have hnew := heap_alloc_new w (.cells #[.slice b lb cb] 25)
  have HE := hid (madeof2_any 61 #[.pointer (some ⟨w.heap.size, 0, none⟩)] (enters_of Tryz.func61 (by kernel_rfl) rfl) a la ca hs _ (ha.below hbl).rd hla (mulF xss ys) fun k wr hk hw => by
    have h1 := ((ha.below hbl).below hw).rows k hk
    have h2 := (hb.below hbl).below hw
    refine (mul1_any _ _ _ _ _ _ _ _ w.heap.size wr h1 h2 (ha.short k hk) hlb ((hw.block _ (by simp)).trans hnew)).mono ?_
    rintro e w' ⟨e1, e2⟩
    refine ⟨?_, e2⟩
    rw [e1]
    unfold mulF
    rw [h1.size, h2.size])
  have HS : Hid (w.heap.size ≤ (w.alloc (.cells #[.slice b lb cb] 25)).heap.size) := by unfold Hid; simp
  have HN := hid hbl
  clear hbl ha hb hnew
  go_enter Tryz.func24, Tryz.ntmps24
  go_wp2_with fail
  refine HE.out.mono ?_
  rintro e w' ⟨g, cap, rfl, hO, hb⟩
  have HO := hid (hO.low HS.out)
  have HB := hid (HN.out.trans (hb.mono HS.out))
  clear hO hb HE
  go_wp2
  go_ret
  exact ⟨_, _, rfl, HO.out, HB.out⟩
end Go.Proofs.YtehmdlipacbpfaaGreat
