/-
  The sum of bytes as a number: st is one step of the register; of a text's bits as one number (the lowest first) it is so many steps of the register turned by them. Steps go through a turning (linear), so a sealed text that is turned by m * 2 ^ a, where m has at most 32 bits and is not 0, is not sealed.
-/
import GoSem.Claim
namespace Go.Proofs.Ytlcfjhlchpeedaa
namespace M
set_option linter.unusedVariables false
set_option maxRecDepth 1000000

/-- What the register is turned by. -/
def PZ : Nat := 3988292384
/-- All 32 bits. -/
def FZ : Nat := 4294967295
/-- One step of the register. -/
def st (n : Nat) : Nat := (n / 2) ^^^ (if n % 2 = 1 then PZ else 0)
/-- So many steps. -/
def sts : Nat → Nat → Nat
  | 0, n => n
  | k + 1, n => sts k (st n)

theorem st_even {n : Nat} (h : n % 2 = 0) : st n = n / 2 := by unfold st; rw [if_neg (by omega), Nat.xor_zero]
theorem st_odd {n : Nat} (h : n % 2 = 1) : st n = (n / 2) ^^^ PZ := by unfold st; rw [if_pos h]
theorem st_two (n : Nat) : st (2 * n) = n := by rw [st_even (by omega)]; omega
theorem st_zero : st 0 = 0 := rfl

theorem xor_mod2 (x y : Nat) : (x ^^^ y) % 2 = (x % 2) ^^^ (y % 2) := by
  have := Nat.xor_mod_two_pow (a := x) (b := y) (n := 1)
  simpa using this
theorem xor_div2 (x y : Nat) : (x ^^^ y) / 2 = (x / 2) ^^^ (y / 2) := by
  have := Nat.xor_div_two_pow (a := x) (b := y) (n := 1)
  simpa using this

theorem xor4 (a b c d : Nat) : (a ^^^ b) ^^^ (c ^^^ d) = (a ^^^ c) ^^^ (b ^^^ d) := by
  rw [Nat.xor_assoc, Nat.xor_assoc, ← Nat.xor_assoc b c d, Nat.xor_comm b c, Nat.xor_assoc c b d]

/-- A step goes through a turning. -/
theorem st_xor (x y : Nat) : st (x ^^^ y) = st x ^^^ st y := by
  unfold st
  rw [xor_mod2, xor_div2, xor4]
  congr 1
  rcases Nat.mod_two_eq_zero_or_one x with hx | hx <;> rcases Nat.mod_two_eq_zero_or_one y with hy | hy <;> rw [hx, hy] <;> simp

theorem sts_xor (k x y : Nat) : sts k (x ^^^ y) = sts k x ^^^ sts k y := by
  induction k generalizing x y with
  | zero => rfl
  | succ k ih => simp only [sts]; rw [st_xor, ih]
theorem sts_add (k j n : Nat) : sts (k + j) n = sts j (sts k n) := by
  induction k generalizing n with
  | zero => rw [Nat.zero_add]; rfl
  | succ k ih => rw [Nat.succ_add]; simp only [sts]; exact ih _
theorem sts_last (k n : Nat) : sts (k + 1) n = st (sts k n) := by rw [sts_add]; rfl
theorem sts_pow (k n : Nat) : sts k (2 ^ k * n) = n := by
  induction k generalizing n with
  | zero => simp [sts]
  | succ k ih =>
    have : 2 ^ (k + 1) * n = 2 * (2 ^ k * n) := by rw [Nat.pow_succ, Nat.mul_comm (2 ^ k) 2, Nat.mul_assoc]
    simp only [sts]
    rw [this, st_two, ih]

theorem st_lt {n : Nat} (h : n < 2 ^ 32) : st n < 2 ^ 32 := by
  unfold st
  refine Nat.xor_lt_two_pow (by omega) ?_
  split <;> decide
theorem sts_lt {k n : Nat} (h : n < 2 ^ 32) : sts k n < 2 ^ 32 := by
  induction k generalizing n with
  | zero => exact h
  | succ k ih => exact ih (st_lt h)
theorem st_ne {n : Nat} (h : n < 2 ^ 32) (h0 : n ≠ 0) : st n ≠ 0 := by
  intro e
  rcases Nat.mod_two_eq_zero_or_one n with hx | hx
  · rw [st_even hx] at e; omega
  · rw [st_odd hx] at e
    have := congrArg (fun z => z ^^^ PZ) e
    simp only [Nat.xor_assoc, Nat.xor_self, Nat.xor_zero, Nat.zero_xor] at this
    unfold PZ at this
    omega
theorem sts_ne {k n : Nat} (h : n < 2 ^ 32) (h0 : n ≠ 0) : sts k n ≠ 0 := by
  induction k generalizing n with
  | zero => exact h0
  | succ k ih => exact ih (st_lt h) (st_ne h h0)

/-- A window of at most 32 bits, wherever it lies, is never stepped to 0. -/
theorem sts_window {k a m : Nat} (h : m < 2 ^ 32) (h0 : m ≠ 0) : sts k (2 ^ a * m) ≠ 0 := by
  rcases Nat.le_total a k with hk | hk
  · obtain ⟨j, rfl⟩ := Nat.exists_eq_add_of_le hk
    rw [sts_add, sts_pow]
    exact sts_ne h h0
  · obtain ⟨j, rfl⟩ := Nat.exists_eq_add_of_le hk
    rw [Nat.pow_add, Nat.mul_assoc, sts_pow]
    have := Nat.two_pow_pos j
    intro e
    rcases Nat.mul_eq_zero.1 e with e | e <;> omega

/-- A step with a bit of a text, as the document tells it. -/
def rst (r d : Nat) : Nat := (r / 2) ^^^ (if (r ^^^ d) % 2 = 1 then PZ else 0)
theorem st_rst (r d : Nat) : st (r ^^^ d) = rst r d ^^^ (d / 2) := by
  unfold st rst
  rw [xor_div2, Nat.xor_assoc, Nat.xor_assoc, Nat.xor_comm (d / 2)]

/-- The bytes as one number, the lowest bit first. -/
def val : List Int → Nat
  | [] => 0
  | c :: r => c.toNat ^^^ (256 * val r)

theorem mul256_xor (x y : Nat) : 256 * (x ^^^ y) = (256 * x) ^^^ (256 * y) := by
  have := Nat.shiftLeft_xor_distrib (a := x) (b := y) (i := 8)
  simp only [Nat.shiftLeft_eq] at this
  rw [Nat.mul_comm, Nat.mul_comm 256 x, Nat.mul_comm 256 y]
  exact this
theorem mulpow_xor (k x y : Nat) : 2 ^ k * (x ^^^ y) = (2 ^ k * x) ^^^ (2 ^ k * y) := by
  have := Nat.shiftLeft_xor_distrib (a := x) (b := y) (i := k)
  simp only [Nat.shiftLeft_eq] at this
  rw [Nat.mul_comm, Nat.mul_comm _ x, Nat.mul_comm _ y]
  exact this

theorem val_append (xs ys : List Int) : val (xs ++ ys) = val xs ^^^ (2 ^ (8 * xs.length) * val ys) := by
  induction xs with
  | nil => simp [val]
  | cons c r ih =>
    simp only [List.cons_append, val, ih, List.length_cons]
    rw [mul256_xor, Nat.xor_assoc, show 8 * (r.length + 1) = 8 + 8 * r.length from by omega, Nat.pow_add, Nat.mul_assoc]

theorem val_inj : ∀ (xs ys : List Int), xs.length = ys.length → (∀ x ∈ xs, 0 ≤ x ∧ x ≤ 255) → (∀ x ∈ ys, 0 ≤ x ∧ x ≤ 255) → val xs = val ys → xs = ys
  | [], [], _, _, _, _ => rfl
  | [], _ :: _, h, _, _, _ => by simp at h
  | _ :: _, [], h, _, _, _ => by simp at h
  | c :: r, d :: s, h, hx, hy, hv => by
    have hc := hx c (by simp)
    have hd := hy d (by simp)
    simp only [val] at hv
    have m1 : ∀ (a x : Nat), a < 256 → (a ^^^ (256 * x)) % 256 = a := by
      intro a x ha
      have := Nat.xor_mod_two_pow (a := a) (b := 256 * x) (n := 8)
      simp only [show (2:Nat) ^ 8 = 256 from rfl, Nat.mul_mod_right, Nat.xor_zero] at this
      rw [this, Nat.mod_eq_of_lt ha]
    have m2 : ∀ (a x : Nat), a < 256 → (a ^^^ (256 * x)) / 256 = x := by
      intro a x ha
      have := Nat.xor_div_two_pow (a := a) (b := 256 * x) (n := 8)
      simp only [show (2:Nat) ^ 8 = 256 from rfl, Nat.div_eq_of_lt ha, Nat.zero_xor] at this
      rw [this, Nat.mul_div_cancel_left _ (by omega)]
    have e1 : c.toNat = d.toNat := by
      rw [← m1 c.toNat (val r) (by omega), hv, m1 _ _ (by omega)]
    have e2 : val r = val s := by
      rw [← m2 c.toNat (val r) (by omega), hv, m2 _ _ (by omega)]
    have := val_inj r s (by simpa using h) (fun x h => hx x (by simp [h])) (fun x h => hy x (by simp [h])) e2
    rw [this, show c = d from by omega]

/-- The register behind bytes. -/
def reg (n : Nat) : List Int → Nat
  | [] => n
  | c :: r => reg (sts 8 (n ^^^ c.toNat)) r

theorem reg_append (n : Nat) (xs ys : List Int) : reg n (xs ++ ys) = reg (reg n xs) ys := by
  induction xs generalizing n with
  | nil => rfl
  | cons c r ih => simp only [List.cons_append, reg]; exact ih _
theorem reg_val (n : Nat) (xs : List Int) : reg n xs = sts (8 * xs.length) (n ^^^ val xs) := by
  induction xs generalizing n with
  | nil => simp [reg, val, sts]
  | cons c r ih =>
    simp only [reg, val, List.length_cons]
    rw [ih, show 8 * (r.length + 1) = 8 + 8 * r.length from by omega, sts_add, ← Nat.xor_assoc, sts_xor 8 (n ^^^ c.toNat)]
    rw [show 256 * val r = 2 ^ 8 * val r from rfl, sts_pow]
theorem reg_lt {n : Nat} {xs : List Int} (h : n < 2 ^ 32) (hx : ∀ x ∈ xs, 0 ≤ x ∧ x ≤ 255) : reg n xs < 2 ^ 32 := by
  induction xs generalizing n with
  | nil => exact h
  | cons c r ih =>
    simp only [reg]
    have := hx c (by simp)
    exact ih (sts_lt (Nat.xor_lt_two_pow h (by omega))) fun x h => hx x (by simp [h])

/-- The sum of bytes. -/
def crc (zs : List Int) : Nat := reg FZ zs ^^^ FZ
theorem crc_lt {zs : List Int} (h : ∀ x ∈ zs, 0 ≤ x ∧ x ≤ 255) : crc zs < 2 ^ 32 := Nat.xor_lt_two_pow (reg_lt (by decide) h) (by decide)

/-- A sum's bytes, the lowest first. -/
def text (n : Nat) : List Int := [((n % 256 : Nat) : Int), ((n / 256 % 256 : Nat) : Int), ((n / 65536 % 256 : Nat) : Int), ((n / 16777216 % 256 : Nat) : Int)]
theorem text_bytes (n : Nat) : ∀ x ∈ text n, 0 ≤ x ∧ x ≤ 255 := by
  intro x hx
  simp [text] at hx
  omega
theorem byte_xor {c n : Nat} (h : c < 256) : c ^^^ (256 * n) = c + 256 * n := by
  have := Nat.two_pow_add_eq_or_of_lt (i := 8) (b := c) h n
  have e : c ^^^ (256 * n) = (256 * n) ||| c := by
    apply Nat.eq_of_testBit_eq
    intro i
    have t : (256 * n).testBit i = (decide (8 ≤ i) && n.testBit (i - 8)) := by
      have := Nat.testBit_two_pow_mul (a := n) (i := 8) (j := i)
      simpa using this
    rw [Nat.testBit_xor, Nat.testBit_or, t]
    rcases Nat.lt_or_ge i 8 with hi | hi
    · simp [show ¬ 8 ≤ i from by omega]
    · rw [Nat.testBit_lt_two_pow (Nat.lt_of_lt_of_le h (Nat.pow_le_pow_right (n := 2) (by omega) hi) : c < 2 ^ i)]
      simp
  rw [e]
  simp only [show (2:Nat) ^ 8 = 256 from rfl] at this
  omega
theorem val_text {n : Nat} (h : n < 2 ^ 32) : val (text n) = n := by
  simp only [text, val, Int.toNat_natCast, Nat.mul_zero, Nat.xor_zero]
  rw [byte_xor (by omega), byte_xor (by omega), byte_xor (by omega)]
  omega

/-- Bytes are sealed: the last four are the sum of those ahead. -/
def Sealed (zs : List Int) : Prop := 4 ≤ zs.length ∧ text (crc (zs.take (zs.length - 4))) = zs.drop (zs.length - 4)
theorem sealed_seal (zs : List Int) : Sealed (zs ++ text (crc zs)) := by
  have hl : (zs ++ text (crc zs)).length - 4 = zs.length := by simp [text]
  refine ⟨by simp [text], ?_⟩
  rw [hl]
  simp

/-- Whether bytes are sealed, told of all as one number. -/
theorem sealed_iff {xs ys : List Int} (hx : ∀ x ∈ xs, 0 ≤ x ∧ x ≤ 255) (hy : ∀ x ∈ ys, 0 ≤ x ∧ x ≤ 255) (h4 : ys.length = 4) :
    text (crc xs) = ys ↔ sts (8 * xs.length) (FZ ^^^ val (xs ++ ys)) = FZ := by
  have hv : sts (8 * xs.length) (FZ ^^^ val (xs ++ ys)) = reg FZ xs ^^^ val ys := by
    rw [val_append, ← Nat.xor_assoc, sts_xor, sts_pow, reg_val]
  rw [hv]
  constructor
  · intro e
    rw [← e, val_text (crc_lt hx), crc, ← Nat.xor_assoc, Nat.xor_self, Nat.zero_xor]
  · intro e
    refine val_inj _ _ (by rw [h4]; rfl) (text_bytes _) hy ?_
    rw [val_text (crc_lt hx), crc]
    have := congrArg (fun z => reg FZ xs ^^^ z) e
    simp only [← Nat.xor_assoc, Nat.xor_self, Nat.zero_xor] at this
    exact this.symm

/-- A sealed text turned by a window of at most 32 bits is not sealed. -/
theorem sealed_turned {zs us : List Int} (hz : ∀ x ∈ zs, 0 ≤ x ∧ x ≤ 255) (hu : ∀ x ∈ us, 0 ≤ x ∧ x ≤ 255) (hl : us.length = zs.length) (hs : Sealed zs) {a m : Nat} (hm : m < 2 ^ 32)
    (hv : val us = val zs ^^^ (2 ^ a * m)) (hne : us ≠ zs) : ¬ Sealed us := by
  have h0 : m ≠ 0 := by
    intro e
    rw [e, Nat.mul_zero, Nat.xor_zero] at hv
    exact hne (val_inj _ _ hl hu hz hv)
  intro hs'
  obtain ⟨h4, e⟩ := hs
  obtain ⟨_, e'⟩ := hs'
  rw [sealed_iff (fun x h => hz x (List.mem_of_mem_take h)) (fun x h => hz x (List.mem_of_mem_drop h)) (by simp; omega), List.take_append_drop] at e
  rw [sealed_iff (fun x h => hu x (List.mem_of_mem_take h)) (fun x h => hu x (List.mem_of_mem_drop h)) (by simp; omega), List.take_append_drop, hv, ← Nat.xor_assoc, sts_xor] at e'
  simp only [List.length_take] at e e'
  rw [hl, e] at e'
  have : sts (8 * (min (zs.length - 4) zs.length)) (2 ^ a * m) = 0 := by
    have := congrArg (fun z => FZ ^^^ z) e'
    simp only [← Nat.xor_assoc, Nat.xor_self, Nat.zero_xor] at this
    exact this
  exact sts_window hm h0 this

end M
end Go.Proofs.Ytlcfjhlchpeedaa
