/-
  The plain mathematics of words: the word of a number's lowest bits, bit by bit, moved up and down, and what each operation comes to. It speaks of numbers alone.
-/
namespace Go.Proofs.Ytlkcpplpjjbiaaa.word

/-- The word of the lowest 32 bits. -/
def low (n : Int) : Int := (n + 2147483648) % 4294967296 - 2147483648
def Word (n : Int) : Prop := -2147483648 ≤ n ∧ n ≤ 2147483647
instance (n : Int) : Decidable (Word n) := inferInstanceAs (Decidable (-2147483648 ≤ n ∧ n ≤ 2147483647))
theorem low_word (n : Int) : Word (low n) := by unfold Word low; omega
theorem low_id {n : Int} (h : Word n) : low n = n := by unfold Word at h; unfold low; omega
theorem low_low (n : Int) : low (low n) = low n := low_id (low_word n)
theorem low_diff (n : Int) : (n - low n) % 4294967296 = 0 := by unfold low; omega
theorem low_eq (a b : Int) : low a = low b ↔ (a - b) % 4294967296 = 0 := by unfold low; omega
theorem low_mod (n : Int) : low (n % 4294967296) = low n := by unfold low; omega

/-- What is left in a division that is rounded towards 0, by a number above 0. -/
theorem tmod_pos {n : Int} (h : 0 ≤ n) (d : Int) : n.tmod d = n % d := Int.tmod_eq_emod_of_nonneg h
theorem tmod_neg {n : Int} (h : n < 0) (d : Int) : n.tmod d = -((-n) % d) := by
  have h1 : (-n).tmod d = -(n.tmod d) := Int.neg_tmod _ _
  rw [Int.tmod_eq_emod_of_nonneg (by omega)] at h1
  omega
theorem low_tmod (n : Int) : low n = if 2147483648 ≤ n.tmod 4294967296 then n.tmod 4294967296 - 4294967296 else if n.tmod 4294967296 < -2147483648 then n.tmod 4294967296 + 4294967296 else n.tmod 4294967296 := by
  unfold low
  by_cases h : 0 ≤ n
  · rw [tmod_pos h]
    split
    · omega
    · split <;> omega
  · rw [tmod_neg (by omega)]
    split
    · omega
    · split <;> omega
theorem tmod_range (n : Int) : -4294967296 < n.tmod 4294967296 ∧ n.tmod 4294967296 < 4294967296 := by
  by_cases h : 0 ≤ n
  · rw [tmod_pos h]; omega
  · rw [tmod_neg (by omega)]; omega

/-- The bits of a word, as a number from 0 on. -/
def un (n : Int) : Nat := (n % 4294967296).toNat
theorem un_lt (n : Int) : un n < 4294967296 := by unfold un; omega
theorem un_word {n : Int} (h : Word n) : (un n : Int) = if n < 0 then n + 4294967296 else n := by
  unfold Word at h
  unfold un
  split <;> omega
theorem low_un (n : Int) : low (un n : Int) = low n := by unfold low un; omega

/-- Two words of ones, bit by bit. -/
def bitop (op : Int) (x y : Nat) : Nat := if op = 11 then x &&& y else if op = 12 then x ||| y else x ^^^ y
theorem bitop_lt (op : Int) {x y : Nat} (hx : x < 4294967296) (hy : y < 4294967296) : bitop op x y < 4294967296 := by
  have e : (2 : Nat) ^ 32 = 4294967296 := rfl
  unfold bitop
  split
  · exact Nat.lt_of_le_of_lt Nat.and_le_left hx
  · split
    · rw [← e] at *; exact Nat.or_lt_two_pow hx hy
    · rw [← e] at *; exact Nat.xor_lt_two_pow hx hy
def bitAt (x k : Nat) : Nat := x / 2 ^ k % 2
theorem bitAt_lt (x k : Nat) : bitAt x k < 2 := Nat.mod_lt _ (by omega)
theorem bitAt_test (x k : Nat) : bitAt x k = if x.testBit k then 1 else 0 := by
  unfold bitAt
  rw [Nat.testBit_eq_decide_div_mod_eq]
  by_cases h : x / 2 ^ k % 2 = 1
  · simp [h]
  · have h0 : x / 2 ^ k % 2 = 0 := by omega
    simp [h0]
/-- Whether a bit of the two stands in what comes. -/
def joins (op : Int) (x y : Nat) : Prop := (op = 11 ∧ x + y = 2) ∨ (op = 12 ∧ 0 < x + y) ∨ (op = 13 ∧ x + y = 1)
instance (op : Int) (x y : Nat) : Decidable (joins op x y) := inferInstanceAs (Decidable ((op = 11 ∧ x + y = 2) ∨ (op = 12 ∧ 0 < x + y) ∨ (op = 13 ∧ x + y = 1)))
theorem bitop_at {op : Int} (hop : op = 11 ∨ op = 12 ∨ op = 13) (x y k : Nat) : bitAt (bitop op x y) k = if joins op (bitAt x k) (bitAt y k) then 1 else 0 := by
  rw [bitAt_test, bitAt_test x, bitAt_test y]
  unfold bitop joins
  rcases hop with rfl | rfl | rfl
  · simp only [if_true, Nat.testBit_and]
    cases x.testBit k <;> cases y.testBit k <;> simp
  · simp only [show ¬ ((12 : Int) = 11) from by decide, if_false, if_true, Nat.testBit_or]
    cases x.testBit k <;> cases y.testBit k <;> simp
  · simp only [show ¬ ((13 : Int) = 11) from by decide, show ¬ ((13 : Int) = 12) from by decide, if_false, Nat.testBit_xor]
    cases x.testBit k <;> cases y.testBit k <;> simp
theorem mod_succ (x k : Nat) : x % 2 ^ (k + 1) = x % 2 ^ k + 2 ^ k * bitAt x k := Nat.mod_pow_succ
theorem bitAt_succ (x k : Nat) : x / 2 ^ k / 2 = x / 2 ^ (k + 1) := by rw [Nat.div_div_eq_div_mul, Nat.pow_succ]

/-- A step up, and a step down. -/
theorem low_double (a : Int) (k : Nat) : low (2 * low (a * 2 ^ k)) = low (a * 2 ^ (k + 1)) := by
  rw [show a * 2 ^ (k + 1) = 2 * (a * 2 ^ k) from by rw [Int.pow_succ, ← Int.mul_assoc, Int.mul_comm]]
  generalize a * 2 ^ k = x
  unfold low
  omega
theorem half_step (a : Int) (k : Nat) : a / 2 ^ k / 2 = a / 2 ^ (k + 1) := by
  rw [Int.pow_succ, Int.ediv_ediv_of_nonneg]
  exact Int.le_of_lt (Int.pow_pos (by omega))
/-- Half, rounded down, by a division that is rounded towards 0. -/
theorem half_neg {a : Int} (h : a < 0) : (a - 1).tdiv 2 = a / 2 := by
  have h1 : (-(a - 1)).tdiv 2 = -((a - 1).tdiv 2) := Int.neg_tdiv _ _
  rw [Int.tdiv_eq_ediv_of_nonneg (by omega)] at h1
  omega
theorem half_pos {a : Int} (h : ¬ a < 0) : a.tdiv 2 = a / 2 := Int.tdiv_eq_ediv_of_nonneg (by omega)

theorem mul_bound {a b : Int} (ha : Word a) (hb : Word b) : -4611686018427387904 ≤ a * b ∧ a * b ≤ 4611686018427387904 := by
  unfold Word at ha hb
  have hm : (a * b).natAbs ≤ 2147483648 * 2147483648 := by
    rw [Int.natAbs_mul]
    exact Nat.mul_le_mul (by omega) (by omega)
  omega

/-- A number, or the fault that it is no word. -/
def ex (n : Int) : Int × Int := if Word n then (n, 0) else (0, 1)
/-- How far a word is moved. -/
def far (b : Int) : Nat := (b % 32).toNat
theorem far_lt (b : Int) : far b < 32 := by unfold far; omega
/-- What an operation makes of two words, and its fault. -/
def doW (op a b : Int) : Int × Int :=
  if op = 3 then ex (a + b) else if op = 4 then ex (a - b) else if op = 5 then ex (a * b)
  else if op = 6 then (if b = 0 then (0, 2) else ex (a.tdiv b)) else if op = 7 then (if b = 0 then (0, 2) else (a.tmod b, 0))
  else if op = 8 then ex (-a) else if op = 9 then (if a < b then (1, 0) else (0, 0)) else if op = 10 then (if a = b then (1, 0) else (0, 0))
  else if op = 11 ∨ op = 12 ∨ op = 13 then (low (bitop op (un a) (un b) : Nat), 0)
  else if op = 14 then (low (a * 2 ^ far b), 0) else if op = 15 then (a / 2 ^ far b, 0) else (0, 0)
theorem ex_word (n : Int) : Word (ex n).1 := by
  unfold ex
  split
  · assumption
  · unfold Word; omega
theorem tmod_word {a b : Int} (ha : Word a) : Word (a.tmod b) := by
  have h1 : (a.tmod b).natAbs ≤ a.natAbs := by
    rw [Int.natAbs_tmod]
    exact Nat.mod_le _ _
  have h2 : 0 ≤ a → 0 ≤ a.tmod b := fun h => Int.tmod_nonneg b h
  have h3 : a ≤ 0 → a.tmod b ≤ 0 := fun h => by
    have e : (-a).tmod b = -(a.tmod b) := Int.neg_tmod _ _
    have := Int.tmod_nonneg b (show 0 ≤ -a by omega)
    omega
  unfold Word at *
  omega
theorem down_word {a : Int} (ha : Word a) (k : Nat) : Word (a / 2 ^ k) := by
  have hp : (0 : Int) < 2 ^ k := Int.pow_pos (by omega)
  unfold Word at *
  constructor
  · refine (Int.le_ediv_iff_mul_le hp).2 ?_
    have h1 : (1 : Int) ≤ 2 ^ k := hp
    have h2 : -2147483648 * (2 : Int) ^ k ≤ -2147483648 * 1 := Int.mul_le_mul_of_nonpos_left (by omega) h1
    omega
  · by_cases h : 0 ≤ a
    · have := Int.ediv_le_self (2 ^ k) h
      omega
    · have := Int.ediv_neg_of_neg_of_pos (show a < 0 by omega) hp
      omega
theorem doW_word {a b : Int} (ha : Word a) (op : Int) : Word (doW op a b).1 := by
  have h0 : Word 0 := by unfold Word; omega
  have h1 : Word 1 := by unfold Word; omega
  unfold doW
  split
  · exact ex_word _
  split
  · exact ex_word _
  split
  · exact ex_word _
  split
  · split
    · exact h0
    · exact ex_word _
  split
  · split
    · exact h0
    · exact tmod_word ha
  split
  · exact ex_word _
  split
  · split
    · exact h1
    · exact h0
  split
  · split
    · exact h1
    · exact h0
  split
  · exact low_word _
  split
  · exact low_word _
  split
  · exact down_word ha _
  · exact h0
/-- The highest bits of a product. -/
def hi (a b : Int) : Int := a * b / 4294967296
theorem hi_word {a b : Int} (ha : Word a) (hb : Word b) : Word (hi a b) := by
  have h := mul_bound ha hb
  unfold Word hi
  generalize a * b = p at *
  omega
theorem hi_down {p : Int} : p / 4294967296 = if p.tmod 4294967296 < 0 then p.tdiv 4294967296 - 1 else p.tdiv 4294967296 := by
  by_cases h : 0 ≤ p
  · rw [tmod_pos h, Int.tdiv_eq_ediv_of_nonneg h]
    split <;> omega
  · rw [tmod_neg (by omega)]
    have h1 : (-p).tdiv 4294967296 = -(p.tdiv 4294967296) := Int.neg_tdiv _ _
    rw [Int.tdiv_eq_ediv_of_nonneg (by omega)] at h1
    split <;> omega
theorem hi_low (p : Int) : p = p / 4294967296 * 4294967296 + (if low p < 0 then low p + 4294967296 else low p) := by
  unfold low
  split <;> omega
end Go.Proofs.Ytlkcpplpjjbiaaa.word
