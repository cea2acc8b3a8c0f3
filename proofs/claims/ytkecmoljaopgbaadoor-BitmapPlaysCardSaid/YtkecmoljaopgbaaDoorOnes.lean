/-
  The number of bits of a word: what math/bits.OnesCount64 reckons.
-/
import Derived.Test.YtkecmoljaopgbaaDoorBits
namespace Go.Proofs.YtkecmoljaopgbaaDoor.Bm

def val : List Nat → Nat
  | [] => 0
  | b :: r => b + 256 * val r
def rep (c : Nat) : Nat → Nat
  | 0 => 0
  | n + 1 => c + 256 * rep c n

theorem and_split (a c r t : Nat) (ha : a < 256) (hc : c < 256) : (a + 256 * r) &&& (c + 256 * t) = (a &&& c) + 256 * (r &&& t) := by
  have hac : a &&& c < 256 := Nat.lt_of_le_of_lt Nat.and_le_left ha
  refine Nat.eq_of_testBit_eq fun i => ?_
  have tb : ∀ u v, u < 256 → (u + 256 * v).testBit i = if i < 8 then u.testBit i else v.testBit (i - 8) := fun u v hu => by
    have := Nat.testBit_two_pow_mul_add v (show u < 2 ^ 8 from hu) i
    rw [show u + 256 * v = 2 ^ 8 * v + u from by omega]
    exact this
  rw [Nat.testBit_and, tb a r ha, tb c t hc, tb _ _ hac]
  split <;> rw [Nat.testBit_and]

def s1 (b : Nat) : Nat := (b / 2 &&& 85) + (b &&& 85)
def s2 (b : Nat) : Nat := (b / 4 &&& 51) + (b &&& 51)
def s3 (b : Nat) : Nat := b / 16 + b % 16
def pc (b : Nat) : Nat := s3 (s2 (s1 b))

theorem k1 : ∀ b, b < 256 → ∀ y, y < 2 → (b / 2 + 128 * y) &&& 85 = b / 2 &&& 85 := by decide +kernel
theorem k2 : ∀ b, b < 256 → ∀ y, y < 4 → (b / 4 + 64 * y) &&& 51 = b / 4 &&& 51 := by decide +kernel
theorem b1 : ∀ b, b < 256 → s1 b < 256 := by decide +kernel
theorem b2 : ∀ b, b < 256 → s2 (s1 b) / 16 ≤ 4 ∧ s2 (s1 b) % 16 ≤ 4 := by decide +kernel
theorem b3 : ∀ b, b < 256 → pc b ≤ 8 := by decide +kernel
theorem k3 (b y : Nat) (h1 : b / 16 ≤ 4) (h2 : b % 16 ≤ 4) : (b / 16 + 16 * y + b) &&& 15 = b / 16 + b % 16 := by
  have : (b / 16 + 16 * y + b) &&& 15 = (b / 16 + 16 * y + b) % 16 := Nat.and_two_pow_sub_one_eq_mod _ 4
  omega

theorem step1 : ∀ l : List Nat, (∀ b ∈ l, b < 256) → (val l / 2 &&& rep 85 l.length) + (val l &&& rep 85 l.length) = val (l.map s1)
  | [], _ => rfl
  | b :: r, h => by
    have hb := h b (by simp)
    have ih := step1 r fun x hx => h x (by simp [hx])
    have e : (b + 256 * val r) / 2 = (b / 2 + 128 * (val r % 2)) + 256 * (val r / 2) := by omega
    simp only [val, rep, List.length_cons, List.map_cons]
    rw [e, and_split _ _ _ _ (by omega) (by decide), and_split _ _ _ _ hb (by decide), k1 b hb _ (Nat.mod_lt _ (by decide)), ← ih, s1]
    omega
theorem step2 : ∀ l : List Nat, (∀ b ∈ l, b < 256) → (val l / 4 &&& rep 51 l.length) + (val l &&& rep 51 l.length) = val (l.map s2)
  | [], _ => rfl
  | b :: r, h => by
    have hb := h b (by simp)
    have ih := step2 r fun x hx => h x (by simp [hx])
    have e : (b + 256 * val r) / 4 = (b / 4 + 64 * (val r % 4)) + 256 * (val r / 4) := by omega
    simp only [val, rep, List.length_cons, List.map_cons]
    rw [e, and_split _ _ _ _ (by omega) (by decide), and_split _ _ _ _ hb (by decide), k2 b hb _ (Nat.mod_lt _ (by decide)), ← ih, s2]
    omega
theorem step3 : ∀ l : List Nat, (∀ b ∈ l, b / 16 ≤ 4 ∧ b % 16 ≤ 4) → (val l / 16 + val l) &&& rep 15 l.length = val (l.map s3)
  | [], _ => rfl
  | b :: r, h => by
    obtain ⟨h1, h2⟩ := h b (by simp)
    have hr : val r % 16 ≤ 4 := by
      cases r with
      | nil => simp [val]
      | cons c t => have := (h c (by simp)).2; simp only [val]; omega
    have ih := step3 r fun x hx => h x (by simp [hx])
    have e : (b + 256 * val r) / 16 + (b + 256 * val r) = (b / 16 + 16 * (val r % 16) + b) + 256 * (val r / 16 + val r) := by omega
    simp only [val, rep, List.length_cons, List.map_cons]
    rw [e, and_split _ _ _ _ (by omega) (by decide), k3 b _ h1 h2, ih, s3]

theorem low7 (z : Nat) : z &&& 127 = z % 128 := Nat.and_two_pow_sub_one_eq_mod z 7

theorem div_of (x a k q : Nat) (hk : 0 < k) (h : x = a + k * q) (ha : a < k) : x / k = q := by
  subst h
  rw [Nat.add_mul_div_left _ _ hk, Nat.div_eq_of_lt ha, Nat.zero_add]

theorem last_a (c0 v1 x3 x4 : Nat) (h0 : c0 ≤ 8) (e3 : x3 = c0 + 256 * v1) (e4 : x4 = x3 + x3 / 256) : x4 = x3 + v1 := by
  rw [e4, div_of x3 c0 256 v1 (by decide) e3 (by omega)]
theorem last_b (d0 d1 w2 x4 x5 : Nat) (h0 : d0 ≤ 16) (h1 : d1 ≤ 16) (e4 : x4 = d0 + 256 * d1 + 65536 * w2) (e5 : x5 = x4 + x4 / 65536) : x5 = x4 + w2 := by
  rw [e5, div_of x4 _ 65536 w2 (by decide) e4 (by omega)]
theorem last_c (f0 f1 f2 f3 u4 x5 x6 : Nat) (h0 : f0 ≤ 32) (h1 : f1 ≤ 32) (h2 : f2 ≤ 32) (h3 : f3 ≤ 32) (e5 : x5 = f0 + 256 * f1 + 65536 * f2 + 16777216 * f3 + 4294967296 * u4) (e6 : x6 = x5 + x5 / 4294967296) : x6 = x5 + u4 := by
  rw [e6, div_of x5 _ 4294967296 u4 (by decide) e5 (by omega)]
theorem last_x4 (c0 c1 c2 v1 v2 v3 x3 x4 : Nat) (e3 : x3 = c0 + 256 * v1) (e4 : x4 = x3 + v1) (hv1 : v1 = c1 + 256 * v2) (hv2 : v2 = c2 + 256 * v3) : x4 = (c0 + c1) + 256 * (c1 + c2) + 65536 * (v2 + v3) := by omega
theorem last_w2 (c2 c3 c4 v2 v3 v4 v5 : Nat) (hv2 : v2 = c2 + 256 * v3) (hv3 : v3 = c3 + 256 * v4) (hv4 : v4 = c4 + 256 * v5) : v2 + v3 = (c2 + c3) + 256 * (c3 + c4) + 65536 * (v4 + v5) := by omega
theorem last_x5 (c0 c1 c2 c3 c4 c5 c6 w2 w4 w6 x4 x5 : Nat) (e4 : x4 = (c0 + c1) + 256 * (c1 + c2) + 65536 * w2) (e2 : w2 = (c2 + c3) + 256 * (c3 + c4) + 65536 * w4) (e44 : w4 = (c4 + c5) + 256 * (c5 + c6) + 65536 * w6) (e5 : x5 = x4 + w2) :
    x5 = (c0 + c1 + c2 + c3) + 256 * (c1 + c2 + c3 + c4) + 65536 * (c2 + c3 + c4 + c5) + 16777216 * (c3 + c4 + c5 + c6) + 4294967296 * (w4 + w6) := by omega

theorem last_bound (x3 x4 x5 x6 v1 a b : Nat) (q0 : x3 ≤ 578721382704613384) (q1 : v1 ≤ 578721382704613384) (qa : a ≤ 578721382704613384) (qb : b ≤ 578721382704613384) (g4 : x4 = x3 + v1) (g6 : x5 = x4 + a) (g10 : x6 = x5 + b) :
    x3 < 18446744073709551616 ∧ x4 < 18446744073709551616 ∧ x5 < 18446744073709551616 ∧ x6 < 9223372036854775808 := ⟨by omega, by omega, by omega, by omega⟩
theorem last_mod (c0 c1 c2 c3 c4 c5 c6 c7 a b c d : Nat) (h0 : c0 ≤ 8) (h1 : c1 ≤ 8) (h2 : c2 ≤ 8) (h3 : c3 ≤ 8) (h4 : c4 ≤ 8) (h5 : c5 ≤ 8) (h6 : c6 ≤ 8) (h7 : c7 ≤ 8) :
    (c0 + c1 + c2 + c3 + 256 * a + 65536 * b + 16777216 * c + 4294967296 * (c4 + c5 + c6 + c7 + 256 * d) + (c4 + c5 + c6 + c7 + 256 * d)) % 128 = c0 + c1 + c2 + c3 + c4 + c5 + c6 + c7 := by omega

/-- The last three steps, at bytes of at most 8. -/
theorem last (c0 c1 c2 c3 c4 c5 c6 c7 : Nat) (h0 : c0 ≤ 8) (h1 : c1 ≤ 8) (h2 : c2 ≤ 8) (h3 : c3 ≤ 8) (h4 : c4 ≤ 8) (h5 : c5 ≤ 8) (h6 : c6 ≤ 8) (h7 : c7 ≤ 8) (x3 x4 x5 x6 : Nat)
    (e3 : x3 = val [c0, c1, c2, c3, c4, c5, c6, c7]) (e4 : x4 = x3 + x3 / 256) (e5 : x5 = x4 + x4 / 65536) (e6 : x6 = x5 + x5 / 4294967296) :
    x3 < 18446744073709551616 ∧ x4 < 18446744073709551616 ∧ x5 < 18446744073709551616 ∧ x6 < 9223372036854775808 ∧ x6 % 128 = c0 + c1 + c2 + c3 + c4 + c5 + c6 + c7 := by
  simp only [val, Nat.mul_zero, Nat.add_zero] at e3
  obtain ⟨v6, hv6⟩ : ∃ v, v = c6 + 256 * c7 := ⟨_, rfl⟩
  obtain ⟨v5, hv5⟩ : ∃ v, v = c5 + 256 * v6 := ⟨_, rfl⟩
  obtain ⟨v4, hv4⟩ : ∃ v, v = c4 + 256 * v5 := ⟨_, rfl⟩
  obtain ⟨v3, hv3⟩ : ∃ v, v = c3 + 256 * v4 := ⟨_, rfl⟩
  obtain ⟨v2, hv2⟩ : ∃ v, v = c2 + 256 * v3 := ⟨_, rfl⟩
  obtain ⟨v1, hv1⟩ : ∃ v, v = c1 + 256 * v2 := ⟨_, rfl⟩
  rw [← hv6, ← hv5, ← hv4, ← hv3, ← hv2, ← hv1] at e3
  revert e4 e5 e6
  have q6 : v6 ≤ 2056 := by omega
  have q5 : v5 ≤ 526344 := by omega
  have q4 : v4 ≤ 134744072 := by omega
  have q3 : v3 ≤ 34494482440 := by omega
  have q2 : v2 ≤ 8830587504648 := by omega
  have q1 : v1 ≤ 2260630401189896 := by omega
  have q0 : x3 ≤ 578721382704613384 := by omega
  have g11 : v4 + v5 + (v6 + c7) = (c4 + c5 + c6 + c7) + 256 * (v5 + v6 + c7) := by omega
  have b0 : c0 + c1 ≤ 16 := by omega
  have b1 : c1 + c2 ≤ 16 := by omega
  have b2 : c0 + c1 + c2 + c3 ≤ 32 := by omega
  have b3 : c1 + c2 + c3 + c4 ≤ 32 := by omega
  have b4 : c2 + c3 + c4 + c5 ≤ 32 := by omega
  have b5 : c3 + c4 + c5 + c6 ≤ 32 := by omega
  have b6 : v1 ≤ 578721382704613384 := by omega
  have b7 : v2 + v3 ≤ 578721382704613384 := by omega
  have b8 : v4 + v5 + (v6 + c7) ≤ 578721382704613384 := by omega
  intro e4 e5 e6
  have g4 := last_a c0 v1 x3 x4 h0 e3 e4
  have g5 := last_x4 c0 c1 c2 v1 v2 v3 x3 x4 e3 g4 hv1 hv2
  have g6 := last_b _ _ _ x4 x5 b0 b1 g5 e5
  have g7 := last_w2 c2 c3 c4 v2 v3 v4 v5 hv2 hv3 hv4
  have g8 := last_w2 c4 c5 c6 v4 v5 v6 c7 hv4 hv5 hv6
  have g9 := last_x5 c0 c1 c2 c3 c4 c5 c6 _ _ _ x4 x5 g5 g7 g8 g6
  have g10 := last_c _ _ _ _ _ x5 x6 b2 b3 b4 b5 g9 e6
  clear e4 e5 e6 e3 hv1 hv2 hv3 hv4 hv5 hv6 g7 g8 g5
  obtain ⟨l3, l4, l5, l6⟩ := last_bound x3 x4 x5 x6 v1 _ _ q0 b6 b7 b8 g4 g6 g10
  refine ⟨l3, l4, l5, l6, ?_⟩
  rw [g10, g9, g11]
  exact last_mod c0 c1 c2 c3 c4 c5 c6 c7 _ _ _ _ h0 h1 h2 h3 h4 h5 h6 h7

/-- How many of the m from b on are in. -/
def cnt (f : Nat → Bool) (b : Nat) : Nat → Nat
  | 0 => 0
  | m + 1 => cnt f b m + if f (b + m) then 1 else 0
theorem cnt_add (f : Nat → Bool) (b m : Nat) : ∀ k, cnt f b (m + k) = cnt f b m + cnt f (b + m) k
  | 0 => rfl
  | k + 1 => by rw [← Nat.add_assoc, cnt, cnt, cnt_add f b m k, Nat.add_assoc b m k]; omega
theorem wordOf_add (f : Nat → Bool) (b m : Nat) : ∀ k, wordOf f b (m + k) = wordOf f b m + 2 ^ m * wordOf f (b + m) k
  | 0 => by simp [wordOf]
  | k + 1 => by
    rw [← Nat.add_assoc, wordOf, wordOf, wordOf_add f b m k, Nat.add_assoc b m k, Nat.mul_add, Nat.pow_add]
    by_cases hf : f (b + (m + k)) = true
    · rw [if_pos hf, if_pos hf, Nat.add_assoc]
    · rw [if_neg hf, if_neg hf]; rfl
theorem pc_word (f : Nat → Bool) (b : Nat) : pc (wordOf f b 8) = cnt f b 8 := by
  have h : ∀ x0 x1 x2 x3 x4 x5 x6 x7 : Bool, pc (0 + (if x0 then 2 ^ 0 else 0) + (if x1 then 2 ^ 1 else 0) + (if x2 then 2 ^ 2 else 0) + (if x3 then 2 ^ 3 else 0) + (if x4 then 2 ^ 4 else 0) + (if x5 then 2 ^ 5 else 0) + (if x6 then 2 ^ 6 else 0) + (if x7 then 2 ^ 7 else 0)) =
      0 + (if x0 then 1 else 0) + (if x1 then 1 else 0) + (if x2 then 1 else 0) + (if x3 then 1 else 0) + (if x4 then 1 else 0) + (if x5 then 1 else 0) + (if x6 then 1 else 0) + (if x7 then 1 else 0) := by decide +kernel
  exact h _ _ _ _ _ _ _ _

/-- The eight bytes of a word. -/
def bytesOf (f : Nat → Bool) (b : Nat) : List Nat := [wordOf f b 8, wordOf f (b + 8) 8, wordOf f (b + 16) 8, wordOf f (b + 24) 8, wordOf f (b + 32) 8, wordOf f (b + 40) 8, wordOf f (b + 48) 8, wordOf f (b + 56) 8]
theorem val_bytesOf (f : Nat → Bool) (b : Nat) : val (bytesOf f b) = wordOf f b 64 := by
  rw [show (64 : Nat) = 8 + (8 + (8 + (8 + (8 + (8 + (8 + 8)))))) from rfl]
  simp only [wordOf_add, Nat.add_assoc, bytesOf, val]
  simp
theorem cnt_bytesOf (f : Nat → Bool) (b : Nat) : cnt f b 64 = ((bytesOf f b).map pc).sum := by
  rw [show (64 : Nat) = 8 + (8 + (8 + (8 + (8 + (8 + (8 + 8)))))) from rfl]
  simp only [cnt_add, Nat.add_assoc, bytesOf, List.map_cons, List.map_nil, pc_word]
  simp [List.sum_cons]

theorem rep85 : rep 85 8 = 6148914691236517205 := by decide +kernel
theorem rep51 : rep 51 8 = 3689348814741910323 := by decide +kernel
theorem rep15 : rep 15 8 = 1085102592571150095 := by decide +kernel
/-- What OnesCount64 reckons, step by step. -/
theorem ones_word (f : Nat → Bool) (b : Nat) (x0 x1 x2 x3 x4 x5 x6 : Nat) (e0 : x0 = wordOf f b 64)
    (e1 : x1 = (x0 / 2 &&& 6148914691236517205) + (x0 &&& 6148914691236517205)) (e2 : x2 = (x1 / 4 &&& 3689348814741910323) + (x1 &&& 3689348814741910323))
    (e3 : x3 = (x2 / 16 + x2) &&& 1085102592571150095) (e4 : x4 = x3 + x3 / 256) (e5 : x5 = x4 + x4 / 65536) (e6 : x6 = x5 + x5 / 4294967296) :
    x1 < 18446744073709551616 ∧ x2 < 18446744073709551616 ∧ x2 / 16 + x2 < 18446744073709551616 ∧ x3 < 18446744073709551616 ∧ x4 < 18446744073709551616 ∧ x5 < 18446744073709551616 ∧ x6 < 9223372036854775808 ∧ x6 % 128 = cnt f b 64 := by
  have hb : ∀ x ∈ bytesOf f b, x < 256 := by
    intro x hx
    simp only [bytesOf, List.mem_cons, List.not_mem_nil, or_false] at hx
    rcases hx with rfl | rfl | rfl | rfl | rfl | rfl | rfl | rfl <;> exact wordOf_lt f _ 8
  rw [← val_bytesOf] at e0
  have h1 : x1 = val ((bytesOf f b).map s1) := by
    have := step1 _ hb
    rw [show (bytesOf f b).length = 8 from rfl, rep85, ← e0, ← e1] at this; exact this
  have hb1 : ∀ x ∈ (bytesOf f b).map s1, x < 256 := by
    intro x hx
    obtain ⟨y, hy, rfl⟩ := List.mem_map.1 hx
    exact b1 y (hb y hy)
  have h2 : x2 = val (((bytesOf f b).map s1).map s2) := by
    have := step2 _ hb1
    rw [show ((bytesOf f b).map s1).length = 8 from rfl, rep51, ← h1, ← e2] at this; exact this
  have hb2 : ∀ x ∈ ((bytesOf f b).map s1).map s2, x / 16 ≤ 4 ∧ x % 16 ≤ 4 := by
    intro x hx
    rw [List.map_map] at hx
    obtain ⟨y, hy, rfl⟩ := List.mem_map.1 hx
    exact b2 y (hb y hy)
  have h3 : x3 = val ((((bytesOf f b).map s1).map s2).map s3) := by
    have := step3 _ hb2
    rw [show (((bytesOf f b).map s1).map s2).length = 8 from rfl, rep15, ← h2, ← e3] at this; exact this
  obtain ⟨l3, l4, l5, l6, l7⟩ := last _ _ _ _ _ _ _ _ (b3 _ (hb _ (by simp [bytesOf]))) (b3 _ (hb _ (by simp [bytesOf]))) (b3 _ (hb _ (by simp [bytesOf]))) (b3 _ (hb _ (by simp [bytesOf]))) (b3 _ (hb _ (by simp [bytesOf]))) (b3 _ (hb _ (by simp [bytesOf]))) (b3 _ (hb _ (by simp [bytesOf]))) (b3 _ (hb _ (by simp [bytesOf]))) x3 x4 x5 x6 h3 e4 e5 e6
  have m1 : x0 / 2 &&& 6148914691236517205 ≤ 6148914691236517205 := Nat.and_le_right
  have m2 : x0 &&& 6148914691236517205 ≤ 6148914691236517205 := Nat.and_le_right
  have m3 : x1 / 4 &&& 3689348814741910323 ≤ 3689348814741910323 := Nat.and_le_right
  have m4 : x1 &&& 3689348814741910323 ≤ 3689348814741910323 := Nat.and_le_right
  refine ⟨by omega, by omega, by omega, l3, l4, l5, l6, ?_⟩
  rw [l7, cnt_bytesOf]
  simp only [bytesOf, List.map_cons, List.map_nil, List.sum_cons, List.sum_nil, pc]
  omega

theorem and127_bits (x : Nat) (h : x < 9223372036854775808) : bits .and .i64 (x : Int) 127 = ((x % 128 : Nat) : Int) := by
  have h1 : (BitVec.ofInt 64 (x : Int)).toNat = x := by
    rw [BitVec.ofInt_natCast, BitVec.toNat_ofNat]; exact Nat.mod_eq_of_lt (by omega)
  have h2 : (BitVec.ofInt 64 127).toNat = 127 := by decide
  show IntKind.i64.wrap ((BitVec.ofInt 64 (x : Int) &&& BitVec.ofInt 64 127).toNat : Int) = _
  rw [BitVec.toNat_and, h1, h2, low7]
  have : x % 128 < 128 := Nat.mod_lt _ (by decide)
  generalize x % 128 = y at *
  simp [IntKind.wrap, IntKind.bits, IntKind.signed]
  omega

/-- The next one told is the next one that is in. -/
theorem prefix_next {g : Nat → Bool} {c n j x : Nat} (hf : findN g c n = some j) (hp : elemsTo g c ++ [x] <+: elemsTo g n) : x = j := by
  have h1 := elemsTo_some hf
  have h2 := elemsTo_prefix g (show j + 1 ≤ n from (of_findN_some hf).2.1)
  rw [h1] at h2
  have h3 := List.prefix_of_prefix_length_le hp h2 (by simp)
  have h4 := h3.eq_of_length (by simp)
  simpa using h4
theorem prefix_none {g : Nat → Bool} {c n x : Nat} (hc : c ≤ n) (hf : findN g c n = none) : ¬ elemsTo g c ++ [x] <+: elemsTo g n := fun hp => by
  have h1 := elemsTo_none hc hf
  have h2 := hp.length_le
  rw [h1] at h2
  simp at h2
  omega
theorem elems_rest {g : Nat → Bool} {c n : Nat} (h : elemsTo g c = elemsTo g n) : ∀ x, c ≤ x → x < n → g x = false := by
  cases hf : findN g c n with
  | none => exact of_findN_none hf
  | some j =>
    have h1 := elemsTo_some hf
    have h2 := (elemsTo_prefix g (show j + 1 ≤ n from (of_findN_some hf).2.1)).length_le
    rw [h1, ← h] at h2
    simp at h2
    omega
theorem cnt_zero (g : Nat → Bool) : ∀ m, (∀ k, k < m → g k = false) → cnt g 0 m = 0
  | 0, _ => rfl
  | m + 1, h => by rw [cnt, cnt_zero g m fun k hk => h k (by omega), Nat.zero_add, Nat.zero_add, h m (by omega)]; rfl

/-- So many from i on all say b. -/
def allB (f : Nat → Bool) (i : Nat) (b : Bool) (k : Nat) : Bool := (List.range k).all fun x => f (i + x) == b
theorem allB_succ (f : Nat → Bool) (i : Nat) (b : Bool) (k : Nat) : allB f i b (k + 1) = (allB f i b k && (f (i + k) == b)) := by
  simp [allB, List.range_succ, List.all_append]
theorem allB_iff {f : Nat → Bool} {i : Nat} {b : Bool} {k : Nat} : allB f i b k = true ↔ ∀ x, x < k → f (i + x) = b := by
  simp [allB]
/-- The plain Run's test of a place. -/
def runG (f : Nat → Bool) (n m : Nat) (b : Bool) : Nat → Bool := fun j => decide (j + m ≤ n) && allB f j b m
theorem runG_false (f : Nat → Bool) (n m : Nat) : runG f n m false = runB f n m := by
  funext j
  unfold runG runB allB
  congr 2
  funext k
  cases f (j + k) <;> rfl
def refO (f : Nat → Bool) (n : Nat) (m i : Int) (b : Bool) : Option Nat := if m < 1 then none else findN (runG f n m.toNat b) i.toNat n
theorem findN_congr {g h : Nat → Bool} {a n : Nat} (e : ∀ x, x < n → g x = h x) : findN g a n = findN h a n := by
  cases hf : findN h a n with
  | none => exact findN_none fun x p q => by rw [e x q]; exact of_findN_none hf x p q
  | some j =>
    obtain ⟨h1, h2, h3, h4⟩ := of_findN_some hf
    exact findN_some h1 h2 (by rw [e j h2]; exact h3) fun x p q => by rw [e x (by omega)]; exact h4 x p q
theorem refO_one (f : Nat → Bool) (n : Nat) (i : Int) (b : Bool) : refO f n 1 i b = findN (turned f (!b)) i.toNat n := by
  unfold refO
  rw [if_neg (by decide)]
  refine findN_congr fun x hx => ?_
  unfold runG turned
  rw [show ((1 : Int).toNat) = 0 + 1 from rfl, allB_succ]
  have h : x + (0 + 1) ≤ n := by omega
  cases f x <;> cases b <;> simp [h, allB]

theorem cnt_same (f : Nat → Bool) (b m : Nat) : ∀ d, (∀ i, b + m ≤ i → f i = false) → cnt f b (m + d) = cnt f b m
  | 0, _ => rfl
  | d + 1, h => by rw [← Nat.add_assoc, cnt, h (b + (m + d)) (by omega), cnt_same f b m d h]; rfl
theorem cnt_le (f : Nat → Bool) (b : Nat) : ∀ m, cnt f b m ≤ m
  | 0 => Nat.le_refl _
  | m + 1 => by rw [cnt]; have := cnt_le f b m; split <;> omega
theorem cnt_words (f : Nat → Bool) (n : Nat) (h : ∀ i, n ≤ i → f i = false) : cnt f 0 (64 * ((n + 63) / 64)) = cnt f 0 n := by
  have := cnt_same f 0 n (64 * ((n + 63) / 64) - n) fun i hi => h i (by omega)
  rwa [show n + (64 * ((n + 63) / 64) - n) = 64 * ((n + 63) / 64) from by omega] at this
end Go.Proofs.YtkecmoljaopgbaaDoor.Bm
