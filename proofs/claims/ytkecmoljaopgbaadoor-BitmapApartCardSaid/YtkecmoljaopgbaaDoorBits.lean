/-
  Plain facts on words of bits and on scripts over sets of numbers: no program is named here.
-/
import Derived.Laws.BitsAllLaws
import Derived.Lib.TrailingZeros
namespace Go.Proofs.YtkecmoljaopgbaaDoor.Bm

/-- The word whose bit j says f (b + j), for j below m. -/
def wordOf (f : Nat → Bool) (b : Nat) : Nat → Nat
  | 0 => 0
  | m + 1 => wordOf f b m + if f (b + m) then 2 ^ m else 0

theorem wordOf_lt (f : Nat → Bool) (b : Nat) : ∀ m, wordOf f b m < 2 ^ m
  | 0 => by simp [wordOf]
  | m + 1 => by
    have := wordOf_lt f b m
    rw [wordOf, Nat.pow_succ]
    split <;> omega

theorem testBit_wordOf (f : Nat → Bool) (b : Nat) : ∀ m j, (wordOf f b m).testBit j = (decide (j < m) && f (b + j))
  | 0, j => by simp [wordOf]
  | m + 1, j => by
    have hl := wordOf_lt f b m
    have ih := testBit_wordOf f b m j
    rw [wordOf]
    by_cases hf : f (b + m) = true
    · rw [if_pos hf, Nat.add_comm (wordOf f b m)]
      by_cases hj : j = m
      · subst hj
        rw [Nat.testBit_two_pow_add_eq, ih]
        simp [hf]
      · by_cases hlt : j < m
        · rw [Nat.testBit_two_pow_add_gt hlt, ih]
          simp [hlt, Nat.lt_succ_of_lt hlt]
        · have h1 : ¬ j < m + 1 := by omega
          rw [Nat.testBit_lt_two_pow]
          · simp [h1]
          · exact Nat.lt_of_lt_of_le (by rw [Nat.pow_succ]; omega) (Nat.pow_le_pow_right (by decide) (show m + 1 ≤ j by omega))
    · rw [if_neg hf, Nat.add_zero, ih]
      by_cases hj : j = m
      · subst hj; simp at hf; simp [hf]
      · have : (j < m + 1) = (j < m) := by simp; omega
        simp [this]

def word (f : Nat → Bool) (k : Nat) : Nat := wordOf f (64 * k) 64
theorem word_lt (f : Nat → Bool) (k : Nat) : word f k < 18446744073709551616 := wordOf_lt f _ 64
theorem testBit_word (f : Nat → Bool) (k j : Nat) : (word f k).testBit j = (decide (j < 64) && f (64 * k + j)) := testBit_wordOf f _ _ _
theorem word_congr {f g : Nat → Bool} {k : Nat} (h : ∀ j, j < 64 → f (64 * k + j) = g (64 * k + j)) : word f k = word g k := by
  refine Nat.eq_of_testBit_eq fun j => ?_
  rw [testBit_word, testBit_word]
  by_cases hj : j < 64
  · rw [h j hj]
  · simp [hj]

/-- f, but at i it says b. -/
def upd (f : Nat → Bool) (i : Nat) (b : Bool) : Nat → Bool := fun j => if j = i then b else f j
@[simp] theorem upd_self (f : Nat → Bool) (i : Nat) (b : Bool) : upd f i b i = b := by simp [upd]
theorem upd_other (f : Nat → Bool) {i j : Nat} (b : Bool) (h : j ≠ i) : upd f i b j = f j := by simp [upd, h]

theorem word_upd_other (f : Nat → Bool) (i : Nat) (b : Bool) {k : Nat} (h : k ≠ i / 64) : word (upd f i b) k = word f k :=
  word_congr fun j hj => upd_other f b (by omega)

theorem word_or (f : Nat → Bool) (i : Nat) : word f (i / 64) ||| 2 ^ (i % 64) = word (upd f i true) (i / 64) := by
  refine Nat.eq_of_testBit_eq fun j => ?_
  rw [Nat.testBit_or, testBit_word, testBit_word, Nat.testBit_two_pow]
  by_cases hj : j < 64
  · by_cases hi : i % 64 = j
    · have : 64 * (i / 64) + j = i := by omega
      simp [this, hi, hj]
    · rw [upd_other f true (by omega)]
      simp [hj, hi]
  · have : ¬ i % 64 = j := by omega
    simp [hj, this]

theorem word_andNot (f : Nat → Bool) (i : Nat) : word f (i / 64) &&& (18446744073709551615 - 2 ^ (i % 64)) = word (upd f i false) (i / 64) := by
  refine Nat.eq_of_testBit_eq fun j => ?_
  have hp : 2 ^ (i % 64) < 2 ^ 64 := Nat.pow_lt_pow_right (by decide) (Nat.mod_lt _ (by decide))
  rw [Nat.testBit_and, testBit_word, testBit_word, show (18446744073709551615 : Nat) - 2 ^ (i % 64) = 2 ^ 64 - (2 ^ (i % 64) + 1) from by omega, Nat.testBit_two_pow_sub_succ hp, Nat.testBit_two_pow]
  by_cases hj : j < 64
  · by_cases hi : i % 64 = j
    · have : 64 * (i / 64) + j = i := by omega
      simp [this, hi]
    · rw [upd_other f false (by omega)]
      simp [hj, hi]
  · simp [hj]

/-- The one bit of the word: is i in? -/
theorem word_and (f : Nat → Bool) (i : Nat) : word f (i / 64) &&& 2 ^ (i % 64) = if f i then 2 ^ (i % 64) else 0 := by
  refine Nat.eq_of_testBit_eq fun j => ?_
  rw [Nat.testBit_and, testBit_word, Nat.testBit_two_pow]
  by_cases hi : i % 64 = j
  · have : 64 * (i / 64) + j = i := by omega
    have hj : j < 64 := by omega
    subst hi
    rw [this]
    by_cases hf : f i = true <;> simp [hf, hj]
  · by_cases hf : f i = true <;> simp [hf, hi]

/-- The word with the one bit for i. -/
def bitI (i : Nat) : Int := ((2 ^ (i % 64) : Nat) : Int)
theorem pow_lt (i : Nat) : 2 ^ (i % 64) < 18446744073709551616 := by
  have h : 2 ^ (i % 64) < 2 ^ 64 := Nat.pow_lt_pow_right (by decide) (Nat.mod_lt _ (by decide))
  exact h
theorem bitI_wrap (i : Nat) : IntKind.u64.wrap ((2 : Int) ^ (i % 64)) = bitI i := by
  have hlt := pow_lt i
  have h : ((2 : Int) ^ (i % 64)) = ((2 ^ (i % 64) : Nat) : Int) := by simp
  rw [IntKind.wrap_u64, h, bitI]
  generalize 2 ^ (i % 64) = t at *
  omega
theorem bits_and_has (f : Nat → Bool) (i : Nat) : (bits .and .u64 ((word f (i / 64) : Nat) : Int) (bitI i) != 0) = f i := by
  have hlt := pow_lt i
  have hpos : 0 < 2 ^ (i % 64) := Nat.two_pow_pos _
  rw [bitI, u64_and_nat _ _ (word_lt f _) hlt, word_and]
  by_cases hf : f i = true
  · rw [if_pos hf, hf, bne_iff_ne]; omega
  · rw [if_neg hf]; simp at hf; rw [hf]; rfl
theorem bits_or_put (f : Nat → Bool) (i : Nat) : bits .or .u64 ((word f (i / 64) : Nat) : Int) (bitI i) = ((word (upd f i true) (i / 64) : Nat) : Int) := by
  rw [bitI, u64_or_nat _ _ (word_lt f _) (pow_lt i), word_or]
theorem bits_andNot_take (f : Nat → Bool) (i : Nat) : bits .andNot .u64 ((word f (i / 64) : Nat) : Int) (bitI i) = ((word (upd f i false) (i / 64) : Nat) : Int) := by
  rw [bitI, u64_andNot_nat _ _ (word_lt f _) (pow_lt i), word_andNot]

/-! ### The search -/
/-- The least number from i on, within so many, of which g is true. -/
def seek (g : Nat → Bool) : Nat → Nat → Option Nat
  | 0, _ => none
  | k + 1, i => if g i then some i else seek g k (i + 1)
def findN (g : Nat → Bool) (a n : Nat) : Option Nat := seek g (n - a) a

theorem seek_some (g : Nat → Bool) : ∀ (k i j : Nat), i ≤ j → j < i + k → g j = true → (∀ x, i ≤ x → x < j → g x = false) → seek g k i = some j
  | 0, i, j, h1, h2, _, _ => by omega
  | k + 1, i, j, h1, h2, h3, h4 => by
    rw [seek]
    by_cases e : i = j
    · subst e; rw [if_pos h3]
    · rw [if_neg (by rw [h4 i (Nat.le_refl _) (by omega)]; decide)]
      exact seek_some g k (i + 1) j (by omega) (by omega) h3 fun x a b => h4 x (by omega) b
theorem seek_none (g : Nat → Bool) : ∀ (k i : Nat), (∀ x, i ≤ x → x < i + k → g x = false) → seek g k i = none
  | 0, _, _ => rfl
  | k + 1, i, h => by
    rw [seek, if_neg (by rw [h i (Nat.le_refl _) (by omega)]; decide)]
    exact seek_none g k (i + 1) fun x a b => h x (by omega) (by omega)
theorem of_seek_some (g : Nat → Bool) : ∀ (k i j : Nat), seek g k i = some j → i ≤ j ∧ j < i + k ∧ g j = true ∧ ∀ x, i ≤ x → x < j → g x = false
  | 0, _, _, h => by cases h
  | k + 1, i, j, h => by
    rw [seek] at h
    by_cases e : g i = true
    · rw [if_pos e] at h
      obtain rfl := Option.some.inj h
      exact ⟨Nat.le_refl _, by omega, e, fun x a b => by omega⟩
    · rw [if_neg e] at h
      obtain ⟨h1, h2, h3, h4⟩ := of_seek_some g k (i + 1) j h
      refine ⟨by omega, by omega, h3, fun x a b => ?_⟩
      by_cases hx : x = i
      · subst hx; simpa using e
      · exact h4 x (by omega) b
theorem of_seek_none (g : Nat → Bool) : ∀ (k i : Nat), seek g k i = none → ∀ x, i ≤ x → x < i + k → g x = false
  | 0, _, _, x, a, b => by omega
  | k + 1, i, h, x, a, b => by
    rw [seek] at h
    by_cases e : g i = true
    · rw [if_pos e] at h; cases h
    · rw [if_neg e] at h
      by_cases hx : x = i
      · subst hx; simpa using e
      · exact of_seek_none g k (i + 1) h x (by omega) (by omega)

theorem findN_some {g : Nat → Bool} {a n j : Nat} (h1 : a ≤ j) (h2 : j < n) (h3 : g j = true) (h4 : ∀ x, a ≤ x → x < j → g x = false) : findN g a n = some j :=
  seek_some g _ _ _ h1 (by omega) h3 h4
theorem findN_none {g : Nat → Bool} {a n : Nat} (h : ∀ x, a ≤ x → x < n → g x = false) : findN g a n = none :=
  seek_none g _ _ fun x p q => h x p (by omega)
theorem of_findN_some {g : Nat → Bool} {a n j : Nat} (h : findN g a n = some j) : a ≤ j ∧ j < n ∧ g j = true ∧ ∀ x, a ≤ x → x < j → g x = false := by
  obtain ⟨h1, h2, h3, h4⟩ := of_seek_some g _ _ _ h
  exact ⟨h1, by omega, h3, h4⟩
theorem of_findN_none {g : Nat → Bool} {a n : Nat} (h : findN g a n = none) : ∀ x, a ≤ x → x < n → g x = false :=
  fun x p q => of_seek_none g _ _ h x p (by omega)

/-- g, but nothing below a. -/
def fromF (g : Nat → Bool) (a : Nat) : Nat → Bool := fun j => decide (a ≤ j) && g j
theorem fromF_below {g : Nat → Bool} {a j : Nat} (h : j < a) : fromF g a j = false := by simp [fromF]; omega
theorem fromF_from {g : Nat → Bool} {a j : Nat} (h : a ≤ j) : fromF g a j = g j := by simp [fromF, h]
theorem word_fromF_later {g : Nat → Bool} {a k : Nat} (h : a ≤ 64 * k) : word (fromF g a) k = word g k :=
  word_congr fun j _ => fromF_from (by omega)

/-- f turned over, or not. -/
def turned (f : Nat → Bool) (neg : Bool) : Nat → Bool := fun j => f j ^^ neg
def turnI (neg : Bool) : Int := if neg then 18446744073709551615 else 0

theorem bits_xor_turn (f : Nat → Bool) (neg : Bool) (k : Nat) : bits .xor .u64 ((word f k : Nat) : Int) (turnI neg) = ((word (turned f neg) k : Nat) : Int) := by
  have e : turnI neg = (((if neg then 2 ^ 64 - 1 else 0) : Nat) : Int) := by cases neg <;> rfl
  rw [e, u64_xor_nat _ _ (word_lt f _) (by cases neg <;> decide)]
  congr 1
  refine Nat.eq_of_testBit_eq fun j => ?_
  rw [Nat.testBit_xor, testBit_word, testBit_word, turned]
  cases neg
  · simp
  · have h1 : (2 ^ 64 - 1 : Nat).testBit j = decide (j < 64) := Nat.testBit_two_pow_sub_one 64 j
    rw [if_pos rfl, h1]
    by_cases hj : j < 64 <;> simp [hj]

theorem shift_from (g : Nat → Bool) (a : Nat) : IntKind.u64.wrap (((word g (a / 64) : Nat) : Int) / 2 ^ (a % 64) * 2 ^ (a % 64)) = ((word (fromF g a) (a / 64) : Nat) : Int) := by
  have h : (((word g (a / 64) : Nat) : Int) / 2 ^ (a % 64) * 2 ^ (a % 64)) = ((word g (a / 64) / 2 ^ (a % 64) * 2 ^ (a % 64) : Nat) : Int) := by simp
  have hle : word g (a / 64) / 2 ^ (a % 64) * 2 ^ (a % 64) ≤ word g (a / 64) := Nat.div_mul_le_self _ _
  have hlt := word_lt g (a / 64)
  have e : word g (a / 64) / 2 ^ (a % 64) * 2 ^ (a % 64) = word (fromF g a) (a / 64) := by
    refine Nat.eq_of_testBit_eq fun j => ?_
    rw [Nat.testBit_mul_two_pow, Nat.testBit_div_two_pow, testBit_word, testBit_word]
    by_cases hj : a % 64 ≤ j
    · rw [fromF_from (by omega), show j - a % 64 + a % 64 = j from by omega]
      simp [hj]
    · by_cases h64 : j < 64
      · rw [fromF_below (by omega)]; simp [hj]
      · omega
  rw [h, IntKind.wrap_u64, ← e]
  omega

theorem shift_zero (f : Nat → Bool) (neg : Bool) : IntKind.u64.wrap (bits .xor .u64 ((word f 0 : Nat) : Int) (turnI neg)) = ((word (fromF (turned f neg) 0) 0 : Nat) : Int) := by
  rw [bits_xor_turn, IntKind.wrap_u64, word_fromF_later (Nat.zero_le _)]
  have := word_lt (turned f neg) 0
  omega

/-- A word that is not 0 has its lowest bit. -/
theorem ctz_word {g : Nat → Bool} {k : Nat} (h : word g k ≠ 0) : Lib.ctz 64 (word g k) < 64 ∧ g (64 * k + Lib.ctz 64 (word g k)) = true ∧ ∀ j, j < Lib.ctz 64 (word g k) → g (64 * k + j) = false := by
  obtain ⟨m, hm, hk⟩ := Lib.ctzFrom_spec 64 (word g k) (by omega) (word_lt g k)
  have hc : Lib.ctz 64 (word g k) = Lib.ctzFrom 64 (word g k) := by simp [Lib.ctz, h]
  rw [← hc] at hm hk
  generalize Lib.ctz 64 (word g k) = c at hm hk ⊢
  have tb : ∀ j, (word g k).testBit j = (decide (c ≤ j) && (2 * m + 1).testBit (j - c)) := fun j => by
    rw [hm, Nat.mul_comm, Nat.testBit_mul_two_pow]
  refine ⟨hk, ?_, fun j hj => ?_⟩
  · have h1 := tb c
    rw [testBit_word] at h1
    simpa [hk, Nat.testBit_zero] using h1
  · have h1 := tb j
    rw [testBit_word] at h1
    have h2 : ¬ c ≤ j := by omega
    have h3 : j < 64 := by omega
    simpa [h2, h3] using h1
theorem word_zero {g : Nat → Bool} {k : Nat} (h : word g k = 0) : ∀ j, j < 64 → g (64 * k + j) = false := fun j hj => by
  have h1 := testBit_word g k j
  rw [h] at h1
  simpa [hj] using h1.symm

/-- From j on m numbers, all of them among the n, are not in. -/
def runB (f : Nat → Bool) (n m : Nat) : Nat → Bool := fun j => decide (j + m ≤ n) && (List.range m).all fun k => !f (j + k)
theorem runB_iff {f : Nat → Bool} {n m j : Nat} : runB f n m j = true ↔ j + m ≤ n ∧ ∀ k, k < m → f (j + k) = false := by
  simp [runB]
theorem runB_no {f : Nat → Bool} {n m j : Nat} (h : ¬ (j + m ≤ n ∧ ∀ k, k < m → f (j + k) = false)) : runB f n m j = false := by
  have := mt runB_iff.1 h
  simpa using this

theorem turned_true {f : Nat → Bool} {x : Nat} {b : Bool} (h : turned f true x = b) : f x = !b := by
  subst h; simp [turned]
theorem turned_false {f : Nat → Bool} {x : Nat} {b : Bool} (h : turned f false x = b) : f x = b := by
  subst h; simp [turned]
theorem run_past {f : Nat → Bool} {n m i j s : Nat} (hm : 1 ≤ m) (hJ : ∀ k, i ≤ k → k < j → runB f n m k = false) (s4 : ∀ x, j ≤ x → x < s → turned f true x = false) : ∀ k, i ≤ k → k < s → runB f n m k = false := fun k a b => by
  by_cases hx : k < j
  · exact hJ k a hx
  · have := turned_true (s4 k (by omega) b)
    refine runB_no fun h => ?_
    have h1 := h.2 0 (by omega)
    simp [this] at h1
theorem run_none {f : Nat → Bool} {n m i j s : Nat} (hm : 1 ≤ m) (hJ : ∀ k, i ≤ k → k < j → runB f n m k = false) (s4 : ∀ x, j ≤ x → x < s → turned f true x = false) (h : n < s + m) : findN (runB f n m) i n = none :=
  findN_none fun x a _ => by
    by_cases hx : x < s
    · exact run_past hm hJ s4 x a hx
    · exact runB_no fun h => by omega
theorem run_none' {f : Nat → Bool} {n m i j : Nat} (hm : 1 ≤ m) (hJ : ∀ k, i ≤ k → k < j → runB f n m k = false) (hf : findN (turned f true) j n = none) : findN (runB f n m) i n = none :=
  run_none (s := n) hm hJ (of_findN_none hf) (by omega)
theorem run_found {f : Nat → Bool} {n m i j s : Nat} (hm : 1 ≤ m) (hJ : ∀ k, i ≤ k → k < j → runB f n m k = false) (s4 : ∀ x, j ≤ x → x < s → turned f true x = false) (hi : i ≤ s) (h : s + m ≤ n) (hfree : ∀ x, s ≤ x → x < s + m → turned f false x = false) : findN (runB f n m) i n = some s :=
  findN_some hi (by omega) (runB_iff.2 ⟨h, fun k hk => turned_false (hfree (s + k) (by omega) (by omega))⟩) (run_past hm hJ s4)
theorem run_next {f : Nat → Bool} {n m i j s e : Nat} (hm : 1 ≤ m) (hJ : ∀ k, i ≤ k → k < j → runB f n m k = false) (s4 : ∀ x, j ≤ x → x < s → turned f true x = false) (he : turned f false e = true) (hd : e < s + m) : ∀ k, i ≤ k → k < e → runB f n m k = false := fun k a b => by
  by_cases hx : k < s
  · exact run_past hm hJ s4 k a hx
  · refine runB_no fun h => ?_
    have h1 := h.2 (e - k) (by omega)
    rw [show k + (e - k) = e from by omega, turned_false he] at h1
    cases h1

/-- For how many numbers a set is made. -/
def clampN (n : Int) : Nat := if n < 0 then 0 else if 65536 < n then 65536 else n.toNat
theorem clampN_le (n : Int) : clampN n ≤ 65536 := by unfold clampN; split <;> (try split) <;> omega
def noneF : Nat → Bool := fun _ => false
theorem word_noneF (k : Nat) : word noneF k = 0 := Nat.eq_of_testBit_eq fun j => by rw [testBit_word]; simp [noneF]

/-- What lies between: a run that ends inside and isn't one has a number that is in. -/
theorem next_inside {f : Nat → Bool} {n m i : Nat} (h : i + m ≤ n) (hr : runB f n m i = false) : ∃ k, findN (turned f false) i n = some k ∧ i ≤ k ∧ k < i + m := by
  cases hf : findN (turned f false) i n with
  | none =>
    have h1 := of_findN_none hf
    have : runB f n m i = true := runB_iff.2 ⟨h, fun k hk => turned_false (h1 (i + k) (by omega) (by omega))⟩
    rw [hr] at this; cases this
  | some k =>
    obtain ⟨h1, h2, h3, h4⟩ := of_findN_some hf
    refine ⟨k, rfl, h1, ?_⟩
    apply Nat.lt_of_not_le
    intro hk
    have : runB f n m i = true := runB_iff.2 ⟨h, fun x hx => turned_false (h4 (i + x) (by omega) (by omega))⟩
    rw [hr] at this; cases this

/-! ### The numbers that are in, rising -/
def elemsTo (g : Nat → Bool) (a : Nat) : List Nat := (List.range a).filter g
theorem elemsTo_zero (g : Nat → Bool) : elemsTo g 0 = [] := rfl
theorem elemsTo_succ (g : Nat → Bool) (a : Nat) : elemsTo g (a + 1) = elemsTo g a ++ if g a then [a] else [] := by
  unfold elemsTo
  rw [List.range_succ, List.filter_append]
  by_cases h : g a = true <;> simp [h]
theorem elemsTo_same {g : Nat → Bool} {a : Nat} : ∀ (d : Nat), (∀ x, a ≤ x → x < a + d → g x = false) → elemsTo g (a + d) = elemsTo g a
  | 0, _ => rfl
  | d + 1, h => by
    rw [← Nat.add_assoc, elemsTo_succ, h (a + d) (by omega) (by omega), elemsTo_same d fun x p q => h x p (by omega)]
    simp
theorem elemsTo_none {g : Nat → Bool} {a n : Nat} (ha : a ≤ n) (h : findN g a n = none) : elemsTo g n = elemsTo g a := by
  have := elemsTo_same (g := g) (a := a) (n - a) fun x p q => of_findN_none h x p (by omega)
  rwa [show a + (n - a) = n from by omega] at this
theorem elemsTo_some {g : Nat → Bool} {a n j : Nat} (h : findN g a n = some j) : elemsTo g (j + 1) = elemsTo g a ++ [j] := by
  obtain ⟨h1, h2, h3, h4⟩ := of_findN_some h
  have := elemsTo_same (g := g) (a := a) (j - a) fun x p q => h4 x p (by omega)
  rw [show a + (j - a) = j from by omega] at this
  rw [elemsTo_succ, this, h3]; simp
theorem elemsTo_length (g : Nat → Bool) (a : Nat) : (elemsTo g a).length ≤ a := by
  unfold elemsTo
  have := List.length_filter_le g (List.range a)
  simpa using this
theorem elemsTo_prefix (g : Nat → Bool) {a b : Nat} (h : a ≤ b) : elemsTo g a <+: elemsTo g b := by
  induction b with
  | zero => rw [show a = 0 from by omega]; exact List.prefix_refl _
  | succ b ih =>
    by_cases e : a = b + 1
    · rw [e]; exact List.prefix_refl _
    · rw [elemsTo_succ]; exact (ih (by omega)).trans (List.prefix_append _ _)

end Go.Proofs.YtkecmoljaopgbaaDoor.Bm
