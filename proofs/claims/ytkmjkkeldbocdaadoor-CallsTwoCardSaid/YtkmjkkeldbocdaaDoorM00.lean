/-
  Texts that this claim builds on, merged.
-/
import Derived.Test.YtkmjkkeldbocdaaDoorArr
import Derived.Laws.StructEq
import Derived.Test.YtkmjkkeldbocdaaDoorKept
import Derived.WalkKit
import Derived.WalkSpells
import Derived.WalkLawsBesides
import Derived.Deep.QuietTactic
import Derived.Deep.RegionWith
import Derived.Deep.RegionHeld3
import Derived.Deep.WholeRow
import Derived.StillTailTactics
import Derived.BigQuiet
import Derived.Lib.Hide
import Derived.Test.YtkmjkkeldbocdaaDoorRow
import Derived.Test.YtkmjkkeldbocdaaDoorLexH
namespace Go.Proofs.YtkmjkkeldbocdaaDoor
/-! Arrays compared. Of no program. -/
section
open Go.RowKit Go

def allR (n : Nat) (p : Nat → Bool) : Bool := (List.range n).all p
theorem forIn_all {P : Program} {w : World} {β : Type} (F : Nat → β → Sem (ForInStep β)) (b : Nat → Bool) (r0 r1 : β) : ∀ (l : List Nat), (∀ i ∈ l, (F i r0).run P w = .ok (if b i then .yield r0 else .done r1) w) →
    (forIn l r0 F).run P w = .ok (if l.all b then r0 else r1) w
  | [], _ => by simp
  | i :: l, h => by
    rw [List.forIn_cons, Sem.run_bind, h i (by simp)]
    by_cases hb : b i = true
    · simp only [hb, if_true, Result.andThen_ok, List.all_cons, Bool.true_and]
      exact forIn_all F b r0 r1 l (fun j hj => h j (by simp [hj]))
    · simp [hb]

theorem run_equalIn_array {P : Program} (w : World) {d : Nat} {t e : TypeId} {len n : Nat} (xs ys : Array Value) (b : Nat → Bool) (ht : P.underlying t = some (.array len e)) (hs : ∀ w, (sizeOf e).run P w = .ok n w)
    (hq : ∀ i, i < len → ∃ u v, (part e xs (i * n)).run P w = .ok u w ∧ (part e ys (i * n)).run P w = .ok v w ∧ (Op.equalIn d e u v).run P w = .ok (b i) w) :
    (Op.equalIn (d + 1) t (.agg xs) (.agg ys)).run P w = .ok (allR len b) w := by
  simp only [Op.equalIn, Sem.run_bind, run_underlying ht, Result.andThen_ok, hs]
  rw [Std.Legacy.Range.forIn_eq_forIn_range']
  have hb : ∀ i, i < len → ∃ u v, (part e xs (i * n)).run P w = .ok u w ∧ (part e ys (i * n)).run P w = .ok v w ∧ (Op.equalIn d e u v).run P w = .ok (b i) w := hq
  rw [forIn_all (P := P) (w := w) _ b (none, ()) (some false, ()) _ (fun i hi => by
    obtain ⟨u, v, h1, h2, h3⟩ := hb i (by simpa using hi)
    simp only [Sem.run_bind, h1, h2, h3, Result.andThen_ok]
    cases b i <;> simp)]
  have el : (List.range' (0 : Nat) len 1) = List.range len := by rw [List.range_eq_range']
  simp only [Result.andThen_ok, Std.Legacy.Range.size, Nat.sub_zero, Nat.add_sub_cancel, Nat.div_one, el]
  unfold allR
  cases (List.range len).all b <;> simp

theorem part_int {P : Program} {w : World} {t : TypeId} {xs : Array Value} {o : Nat} {x : Value} (ha : ∀ w, (isAgg t).run P w = .ok false w) (h : xs[o]? = some x) : (part t xs o).run P w = .ok x w := by
  simp [part, Sem.run_bind, ha, h]
/-- An array of ints of the one compared with that of the other. -/
theorem equal_ints {P : Program} (w : World) {d : Nat} {t e : TypeId} {len : Nat} {xs ys : Array Value} (f h : Nat → Int) (ht : P.underlying t = some (.array len e)) (hu : P.underlying e = some (.int .i64)) (hs : ∀ w, (sizeOf e).run P w = .ok 1 w) (ha : ∀ w, (isAgg e).run P w = .ok false w)
    (hx : ∀ i, i < len → xs[i]? = some (.int .i64 (f i))) (hy : ∀ i, i < len → ys[i]? = some (.int .i64 (h i))) :
    (Op.equalIn (d + 2) t (.agg xs) (.agg ys)).run P w = .ok (allR len fun i => f i == h i) w :=
  run_equalIn_array w xs ys _ ht hs (fun i hi => ⟨_, _, part_int ha (by rw [Nat.mul_one]; exact hx i hi), part_int ha (by rw [Nat.mul_one]; exact hy i hi), run_equalIn_int w d e .i64 .i64 _ _ hu⟩)
end
/-! A config as a value and in memory: ninety-four ints; what within, homesMay and framesMay come to. -/
section
open Go.RowKit Go

set_option maxRecDepth 100000 in
theorem size3 (w : World) : (sizeOf 3).run Tryd.prog w = .ok 1 w := by kernel_rfl
set_option maxRecDepth 100000 in
theorem size47 (w : World) : (sizeOf 47).run Tryd.prog w = .ok 8 w := by kernel_rfl

/-- The cells of a config: ninety-four ints. -/
structure Cfg (A : Array Value) (g : Nat → Int) : Prop where
  size : A.size = 94
  get : ∀ i, i < 94 → A[i]? = some (.int .i64 (g i))

theorem Cfg.one {A : Array Value} {g : Nat → Int} (C : Cfg A g) : A.all (·.oneCell') = true := by
  rw [Array.all_eq_true]
  intro i h
  have h2 := C.get i (by rw [← C.size]; exact h)
  rw [Array.getElem?_eq_getElem h] at h2
  rw [Option.some.inj h2]; rfl

/-- A config g lies at block b. -/
structure CfgAt (w : World) (b : Nat) (A : Array Value) (g : Nat → Int) : Prop where
  cfg : Cfg A g
  block : w.heap[b]? = some (.cells A 50 (0, 0))

theorem CfgAt.cell {w : World} {b : Nat} {A : Array Value} {g : Nat → Int} (C : CfgAt w b A g) (i : Nat) (h : i < 94) : w.cell? ⟨b, i, none⟩ = some (.int .i64 (g i)) := by
  rw [cell_of_row w b i _ _ _ C.block, C.cfg.get i h]
theorem CfgAt.lt {w : World} {b : Nat} {A : Array Value} {g : Nat → Int} (C : CfgAt w b A g) : b < w.heap.size := by
  have := C.block
  by_cases h : b < w.heap.size
  · exact h
  · rw [Array.getElem?_eq_none (by omega)] at this; cases this
theorem CfgAt.later {w w' : World} {b : Nat} {A : Array Value} {g : Nat → Int} (C : CfgAt w b A g) (hb : Below w.heap.size w w') : CfgAt w' b A g := by
  refine ⟨C.cfg, ?_⟩
  rw [hb.block b C.lt]; exact C.block
theorem CfgAt.drewN {w : World} {b : Nat} {A : Array Value} {g : Nat → Int} (C : CfgAt w b A g) (m : Nat) : CfgAt (w.drewN m) b A g := ⟨C.cfg, C.block⟩
theorem CfgAt.new (w : World) {A : Array Value} {g : Nat → Int} (C : Cfg A g) : CfgAt (w.alloc (.cells A 50)) w.heap.size A g := ⟨C, heap_alloc_new w _⟩


/-- within. -/
def withinB (n a b : Int) : Bool := decide (a ≤ n ∧ n ≤ b)
set_option maxRecDepth 100000 in
theorem within_any (n a b : Int) (w : World) : Calls Tryd.prog 53 #[.int .i64 n, .int .i64 a, .int .i64 b] w fun e w' => e = .returned (.bool (withinB n a b)) ∧ w = w' := by
  unfold withinB
  by_cases h1 : a ≤ n
  · by_cases h2 : n ≤ b
    all_goals
      go_enter Tryd.func53, Tryd.ntmps53
      go_wp2
      go_ret
      exact ⟨by simp [h1, h2], rfl⟩
  · go_enter Tryd.func53, Tryd.ntmps53
    go_wp2
    go_ret
    exact ⟨by simp; omega, rfl⟩

set_option maxRecDepth 100000 in
theorem within_is {n a b : Int} {v : Bool} (h : withinB n a b = v) (w : World) : Calls Tryd.prog 53 #[.int .i64 n, .int .i64 a, .int .i64 b] w fun e w' => e = .returned (.bool v) ∧ w = w' := by
  subst h; exact within_any n a b w

/-- All of the first n. -/
theorem allR_true {n : Nat} {p : Nat → Bool} (h : ∀ i, i < n → p i = true) : allR n p = true := by
  simpa [allR] using h
theorem allR_false {n : Nat} {p : Nat → Bool} (k : Nat) (hk : k < n) (h : p k = false) : allR n p = false := by
  cases e : allR n p with
  | false => rfl
  | true =>
    have : ∀ i, i < n → p i = true := by simpa [allR] using e
    rw [this k hk] at h; cases h
theorem of_allR {n : Nat} {p : Nat → Bool} (h : allR n p = true) : ∀ i, i < n → p i = true := by simpa [allR] using h

/-- homesMay: the CPUs' homes are nodes. -/
def homesB (g : Nat → Int) : Bool := allR (g 1).toNat fun i => withinB (g (2 + i)) 0 (g 0 - 1)
set_option maxRecDepth 100000 in
theorem homes_any (A : Array Value) (g : Nat → Int) (w : World) (hA : Cfg A g) (hN : 1 ≤ g 0) (hN8 : g 0 ≤ 8) (hC : 1 ≤ g 1) (hC16 : g 1 ≤ 16) :
    Calls Tryd.prog 54 #[.agg A] w fun e w' => e = .returned (.bool (homesB g)) ∧ Below w.heap.size w w' := by
  obtain ⟨c, hc⟩ := Int.eq_ofNat_of_zero_le (show 0 ≤ g 1 by omega)
  obtain ⟨n, hn⟩ := Int.eq_ofNat_of_zero_le (show 0 ≤ g 0 by omega)
  have HB := Lib.hid (show homesB g = allR c fun i => withinB (g (2 + i)) 0 (n - 1) by unfold homesB; rw [hc, hn]; rfl)
  have hc1 : 1 ≤ c := by omega
  have hc2 : c ≤ 16 := by omega
  have hn1 : 1 ≤ n := by omega
  have hn2 : n ≤ 8 := by omega
  have a0 : A[0]? = some (.int .i64 n) := by rw [← hn]; exact hA.get 0 (by decide)
  have a1 : A[1]? = some (.int .i64 c) := by rw [← hc]; exact hA.get 1 (by decide)
  have HA := Lib.hid hA
  clear hA hc hn hN hN8 hC hC16
  have hsl := run_slice_to (P := Tryd.prog) Tryd.underlying46 size3 c hc2
  go_enter Tryd.func54, Tryd.ntmps54
  go_wp2_with (fail)
  go_loop [4, 10] (fun _ x => ∃ k : Nat, k ≤ c ∧ x = .int .i64 k ∧ Hid (∀ i, i < k → withinB (g (2 + i)) 0 (n - 1) = true)) (fun _ x => c - (intOf x).toNat)
  case atStart => exact ⟨0, Nat.zero_le _, rfl, Lib.hid (fun i h => absurd h (Nat.not_lt_zero _))⟩
  case round =>
    obtain ⟨k, hk, rfl, HK⟩ := hrel
    by_cases hlt : k < c
    · have ak : A[2 + k]? = some (.int .i64 (g (2 + k))) := HA.out.get _ (by omega)
      cases hw : withinB (g (2 + k)) 0 (n - 1) with
      | true =>
        have HW := Lib.hid hw
        clear hw
        go_wp2_with (fail)
        refine (within_is HW.out _).mono ?_
        rintro e w' ⟨rfl, rfl⟩
        go_wp2_with (fail)
        go_round
        case rel => exact ⟨k + 1, by omega, by go_num, Lib.hid (fun i h => by
          by_cases e : i = k
          · subst e; exact HW.out
          · exact HK.out i (by omega))⟩
        case measure => simp [intOf]; omega
      | false =>
        have HF := Lib.hid (show homesB g = false by rw [HB.out]; exact allR_false k hlt hw)
        have HW := Lib.hid hw
        clear hw
        go_wp2_with (fail)
        refine (within_is HW.out _).mono ?_
        rintro e w' ⟨rfl, rfl⟩
        go_wp2_with (fail)
        go_ret
        exact ⟨by rw [HF.out]; rfl, (Below.refl _ _).alloc (Nat.le_refl _) _⟩
    · have HT := Lib.hid (show homesB g = true by rw [HB.out]; exact allR_true (fun i h => HK.out i (by omega)))
      go_wp2_with (fail)
      go_ret
      exact ⟨by rw [HT.out]; rfl, (Below.refl _ _).alloc (Nat.le_refl _) _⟩

/-- framesMay: each node has as many frames as it may have. -/
def framesB (g : Nat → Int) : Bool := allR (g 0).toNat fun i => withinB (g (18 + i)) 4 128
set_option maxRecDepth 100000 in
theorem framesMay_any (A : Array Value) (g : Nat → Int) (w : World) (hA : Cfg A g) (hN : 1 ≤ g 0) (hN8 : g 0 ≤ 8) :
    Calls Tryd.prog 55 #[.agg A] w fun e w' => e = .returned (.bool (framesB g)) ∧ Below w.heap.size w w' := by
  obtain ⟨n, hn⟩ := Int.eq_ofNat_of_zero_le (show 0 ≤ g 0 by omega)
  have HB := Lib.hid (show framesB g = allR n fun i => withinB (g (18 + i)) 4 128 by unfold framesB; rw [hn]; rfl)
  have hn1 : 1 ≤ n := by omega
  have hn2 : n ≤ 8 := by omega
  have a0 : A[0]? = some (.int .i64 n) := by rw [← hn]; exact hA.get 0 (by decide)
  have HA := Lib.hid hA
  clear hA hn hN hN8
  have hsl := run_slice_to (P := Tryd.prog) Tryd.underlying47 size3 n hn2
  go_enter Tryd.func55, Tryd.ntmps55
  go_wp2_with (fail)
  go_loop [4, 10] (fun _ x => ∃ k : Nat, k ≤ n ∧ x = .int .i64 k ∧ Hid (∀ i, i < k → withinB (g (18 + i)) 4 128 = true)) (fun _ x => n - (intOf x).toNat)
  case atStart => exact ⟨0, Nat.zero_le _, rfl, Lib.hid (fun i h => absurd h (Nat.not_lt_zero _))⟩
  case round =>
    obtain ⟨k, hk, rfl, HK⟩ := hrel
    by_cases hlt : k < n
    · have ak : A[18 + k]? = some (.int .i64 (g (18 + k))) := HA.out.get _ (by omega)
      cases hw : withinB (g (18 + k)) 4 128 with
      | true =>
        have HW := Lib.hid hw
        clear hw
        go_wp2_with (fail)
        refine (within_is HW.out _).mono ?_
        rintro e w' ⟨rfl, rfl⟩
        go_wp2_with (fail)
        go_round
        case rel => exact ⟨k + 1, by omega, by go_num, Lib.hid (fun i h => by
          by_cases e : i = k
          · subst e; exact HW.out
          · exact HK.out i (by omega))⟩
        case measure => simp [intOf]; omega
      | false =>
        have HF := Lib.hid (show framesB g = false by rw [HB.out]; exact allR_false k hlt hw)
        have HW := Lib.hid hw
        clear hw
        go_wp2_with (fail)
        refine (within_is HW.out _).mono ?_
        rintro e w' ⟨rfl, rfl⟩
        go_wp2_with (fail)
        go_ret
        exact ⟨by rw [HF.out]; rfl, (Below.refl _ _).alloc (Nat.le_refl _) _⟩
    · have HT := Lib.hid (show framesB g = true by rw [HB.out]; exact allR_true (fun i h => HK.out i (by omega)))
      go_wp2_with (fail)
      go_ret
      exact ⟨by rw [HT.out]; rfl, (Below.refl _ _).alloc (Nat.le_refl _) _⟩
end
/-! distancesMay, slices.Min, watermarksMay. -/
section
open Go.RowKit Go

/-- Two nodes' distances. -/
def pairB (g : Nat → Int) (a b : Nat) : Bool := !(g (26 + a * 8 + b) != g (26 + b * 8 + a)) && withinB (g (26 + a * 8 + b)) 1 255
def rowB (g : Nat → Int) (a : Nat) : Bool := !(g (26 + a * 8 + a) != 0) && allR a (pairB g a)
/-- distancesMay. -/
def distB (g : Nat → Int) : Bool := allR (g 0).toNat (rowB g)

set_option maxRecDepth 100000 in
theorem dist_any (A : Array Value) (g : Nat → Int) (w : World) (hA : Cfg A g) (hN : 1 ≤ g 0) (hN8 : g 0 ≤ 8) :
    Calls Tryd.prog 56 #[.agg A] w fun e w' => e = .returned (.bool (distB g)) ∧ Below w.heap.size w w' := by
  obtain ⟨n, hn⟩ := Int.eq_ofNat_of_zero_le (show 0 ≤ g 0 by omega)
  have HB := Lib.hid (show distB g = allR n (rowB g) by unfold distB; rw [hn]; rfl)
  have hn1 : 1 ≤ n := by omega
  have hn2 : n ≤ 8 := by omega
  have a0 : A[0]? = some (.int .i64 n) := by rw [← hn]; exact hA.get 0 (by decide)
  have HA := Lib.hid hA
  clear hA hn hN hN8
  go_enter Tryd.func56, Tryd.ntmps56
  go_wp2_with (fail)
  go_loopw [3, 4, 5, 6, 9, 20] (fun _ _ _ _ x _ wr => ∃ k : Nat, k ≤ n ∧ x = .int .i64 k ∧ Hid (∀ i, i < k → rowB g i = true) ∧ ∃ m, wr = (w.alloc (.cells A 50)).drewN m) (fun _ _ _ _ x _ _ => n - (intOf x).toNat)
  case atStart => exact ⟨0, Nat.zero_le _, rfl, Lib.hid (fun i h => absurd h (Nat.not_lt_zero _)), 0, rfl⟩
  case round =>
    obtain ⟨k, hk, rfl, HK, m, rfl⟩ := hrel
    by_cases hlt : k < n
    · have akk : A[26 + k * 8 + k]? = some (.int .i64 (g (26 + k * 8 + k))) := HA.out.get _ (by omega)
      cases hw : (g (26 + k * 8 + k) != 0) with
      | true =>
        have HF := Lib.hid (show distB g = false by rw [HB.out]; exact allR_false k hlt (by unfold rowB; rw [hw]; rfl))
        go_wp2_with (fail)
        go_ret
        exact ⟨by rw [HF.out]; rfl, below_drewN ((Below.refl _ _).alloc (Nat.le_refl _) _) _⟩
      | false =>
        have HR := Lib.hid hw
        go_wp2_with (fail)
        clear hw akk
        go_loopw [4, 5, 6, 20] (fun _ _ _ x wr => ∃ j : Nat, j ≤ k ∧ x = .int .i64 j ∧ Hid (∀ i, i < j → pairB g k i = true) ∧ ∃ m, wr = (w.alloc (.cells A 50)).drewN m) (fun _ _ _ x _ => k - (intOf x).toNat)
        case atStart => exact ⟨0, Nat.zero_le _, rfl, Lib.hid (fun i h => absurd h (Nat.not_lt_zero _)), m, rfl⟩
        case round =>
          obtain ⟨j, hj, rfl, HJ, m2, rfl⟩ := hrel
          by_cases hlj : j < k
          · have e1 : A[26 + k * 8 + j]? = some (.int .i64 (g (26 + k * 8 + j))) := HA.out.get _ (by omega)
            have e2 : A[26 + j * 8 + k]? = some (.int .i64 (g (26 + j * 8 + k))) := HA.out.get _ (by omega)
            have ik : (k : Int) < 8 := by omega
            have ij : (j : Int) < 8 := by omega
            have HP := Lib.hid (show pairB g k j = (!(g (26 + k * 8 + j) != g (26 + j * 8 + k)) && withinB (g (26 + k * 8 + j)) 1 255) from rfl)
            have HL := Lib.hid (show pairB g k j = false → distB g = false from fun h => by
              rw [HB.out]; exact allR_false k hlt (by unfold rowB; rw [allR_false j hlj h, Bool.and_false]))
            generalize g (26 + k * 8 + j) = x at e1 HP
            generalize g (26 + j * 8 + k) = y at e2 HP
            cases hne : (x != y) with
            | true =>
              have HF := Lib.hid (HL.out (by rw [HP.out, hne]; rfl))
              go_wp2_with (fail)
              go_quiet (fail)
              go_wp2_with (fail)
              go_ret
              exact ⟨by rw [HF.out]; rfl, below_drewN ((Below.refl _ _).alloc (Nat.le_refl _) _) _⟩
            | false =>
              cases hwi : withinB x 1 255 with
              | true =>
                have HT := Lib.hid (show pairB g k j = true by rw [HP.out, hne, hwi]; rfl)
                have HI := Lib.hid hwi
                clear hwi
                go_wp2_with (fail)
                go_quiet (fail)
                go_wp2_with (fail)
                refine (within_is HI.out _).mono ?_
                rintro e w' ⟨rfl, rfl⟩
                go_wp2_with (fail)
                go_roundw
                case rel => exact ⟨j + 1, by omega, by go_num, Lib.hid (fun i h => by
                  by_cases e : i = j
                  · subst e; exact HT.out
                  · exact HJ.out i (by omega)), _, rfl⟩
                case measure => simp [intOf]; omega
              | false =>
                have HF := Lib.hid (HL.out (by rw [HP.out, hwi, Bool.and_false]))
                have HI := Lib.hid hwi
                clear hwi
                go_wp2_with (fail)
                go_quiet (fail)
                go_wp2_with (fail)
                refine (within_is HI.out _).mono ?_
                rintro e w' ⟨rfl, rfl⟩
                go_wp2_with (fail)
                go_ret
                exact ⟨by rw [HF.out]; rfl, below_drewN ((Below.refl _ _).alloc (Nat.le_refl _) _) _⟩
          · have HT := Lib.hid (show rowB g k = true by
              unfold rowB; rw [HR.out, allR_true (fun i h => HJ.out i (by omega))]; rfl)
            go_wp2_with (fail)
            go_roundw
            case rel => exact ⟨k + 1, by omega, by go_num, Lib.hid (fun i h => by
              by_cases e : i = k
              · subst e; exact HT.out
              · exact HK.out i (by omega)), _, rfl⟩
            case measure => simp [intOf]; omega
    · have HT := Lib.hid (show distB g = true by rw [HB.out]; exact allR_true (fun i h => HK.out i (by omega)))
      go_wp2_with (fail)
      go_ret
      exact ⟨by rw [HT.out]; rfl, below_drewN ((Below.refl _ _).alloc (Nat.le_refl _) _) _⟩
end
/-! slices.Min, watermarksMay. -/
section
open Go.RowKit Go

/-- The least of f 0 to f k. -/
def minR (f : Nat → Int) : Nat → Int
  | 0 => f 0
  | k + 1 => if f (k + 1) < minR f k then f (k + 1) else minR f k
theorem le_minR (f : Nat → Int) (x : Int) : ∀ k, (x ≤ minR f k ↔ ∀ i, i ≤ k → x ≤ f i)
  | 0 => by simp [minR]
  | k + 1 => by
    have ih := le_minR f x k
    unfold minR
    constructor
    · intro h i hi
      by_cases e : i = k + 1
      · subst e; split at h <;> omega
      · exact (ih.1 (by split at h <;> omega)) i (by omega)
    · intro h
      have h1 := h (k + 1) (Nat.le_refl _)
      have h2 := ih.2 (fun i hi => h i (by omega))
      split <;> omega

set_option maxRecDepth 100000 in
theorem min_any (b o n cap : Nat) (f : Nat → Int) (w : World) (hn : 1 ≤ n) (hm : n ≤ 1000) (hc : ∀ i, i < n → w.cell? ⟨b, o + i, none⟩ = some (.int .i64 (f i))) :
    Calls Tryd.prog 69 #[.slice (some ⟨b, o, none⟩) n cap] w fun e w' => e = .returned (.int .i64 (minR f (n - 1))) ∧ w = w' := by
  have h0 : w.cell? ⟨b, o, none⟩ = some (.int .i64 (f 0)) := hc 0 (by omega)
  have HC := Lib.hid hc
  clear hc
  go_enter Tryd.func69, Tryd.ntmps69
  go_wp2_with (fail)
  clear h0
  go_loop [3, 4] (fun m i => ∃ k : Nat, k + 1 ≤ n ∧ i = .int .i64 (k + 1 : Nat) ∧ m = .int .i64 (minR f k)) (fun _ i => n - (intOf i).toNat)
  case atStart => exact ⟨0, by omega, rfl, rfl⟩
  case round =>
    obtain ⟨k, hk, rfl, rfl⟩ := hrel
    by_cases hlt : k + 1 < n
    · have ck := HC.out (k + 1) hlt
      have HM := Lib.hid (show minR f (k + 1) = if f (k + 1) < minR f k then f (k + 1) else minR f k from rfl)
      generalize hx : f (k + 1) = x at ck HM
      clear hx
      go_wp2_with (fail)
      go_round
      case rel => exact ⟨k + 1, hlt, by go_num, by rw [HM.out]⟩
      case measure => simp [intOf]; omega
    · have e : n - 1 = k := by omega
      have HE := Lib.hid e
      clear e
      go_wp2_with (fail)
      go_ret
      exact ⟨by rw [HE.out]; rfl, rfl⟩

/-- watermarksMay. -/
def waterB (g : Nat → Int) : Bool := decide (0 ≤ g 91) && (decide (g 91 ≤ g 92) && (decide (g 92 ≤ g 93) && decide (g 93 ≤ minR (fun i => g (18 + i)) ((g 0).toNat - 1))))
set_option maxRecDepth 100000 in
set_option maxHeartbeats 1000000 in
theorem water_any (A : Array Value) (g : Nat → Int) (w : World) (hA : Cfg A g) (hN : 1 ≤ g 0) (hN8 : g 0 ≤ 8) :
    Calls Tryd.prog 57 #[.agg A] w fun e w' => e = .returned (.bool (waterB g)) ∧ Below w.heap.size w w' := by
  obtain ⟨n, hn⟩ := Int.eq_ofNat_of_zero_le (show 0 ≤ g 0 by omega)
  have hn1 : 1 ≤ n := by omega
  have hn2 : n ≤ 8 := by omega
  have a0 : A[0]? = some (.int .i64 n) := by rw [← hn]; exact hA.get 0 (by decide)
  have a91 : A[91]? = some (.int .i64 (g 91)) := hA.get 91 (by decide)
  have a92 : A[92]? = some (.int .i64 (g 92)) := hA.get 92 (by decide)
  have a93 : A[93]? = some (.int .i64 (g 93)) := hA.get 93 (by decide)
  have HB := Lib.hid (show waterB g = (decide (0 ≤ g 91) && (decide (g 91 ≤ g 92) && (decide (g 92 ≤ g 93) && decide (g 93 ≤ minR (fun i => g (18 + i)) (n - 1))))) by unfold waterB; rw [hn]; rfl)
  have HM := Lib.hid (show ∀ W m, W = (w.alloc (.cells A 50)).drewN m → Calls Tryd.prog 69 #[.slice (some ⟨w.heap.size, 18, none⟩) n 8] W fun e w' => e = .returned (.int .i64 (minR (fun i => g (18 + i)) (n - 1))) ∧ W = w' from fun W m hW => by
    subst hW
    exact min_any w.heap.size 18 n 8 (fun i => g (18 + i)) _ hn1 (by omega) (fun i hi => by
      show ((w.alloc (.cells A 50)).cell? _) = _
      rw [cell_of_row _ _ _ _ _ _ (heap_alloc_new w _)]
      exact hA.get _ (by omega)))
  generalize minR (fun i => g (18 + i)) (n - 1) = M at HB HM
  clear hA hn hN hN8
  have hsl := run_slice_to (P := Tryd.prog) Tryd.underlying47 size3 n hn2
  generalize g 91 = x at a91 HB
  generalize g 92 = y at a92 HB
  generalize g 93 = z at a93 HB
  by_cases h1 : 0 ≤ x
  · by_cases h2 : x ≤ y
    · by_cases h3 : y ≤ z
      · go_enter Tryd.func57, Tryd.ntmps57
        go_wp2_with (fail)
        go_quiet ((go_at_call 69; exact (HM.out _ _ rfl).mono fun _ _ h => ⟨h.1, _, h.2.symm⟩))
        go_wp2_with (fail)
        go_ret
        exact ⟨by rw [HB.out]; simp [h1, h2, h3], below_drewN ((Below.refl _ _).alloc (Nat.le_refl _) _) _⟩
      · have hd : decide (y ≤ z) = false := by simpa using h3
        go_enter Tryd.func57, Tryd.ntmps57
        go_wp2_with (fail)
        go_quiet (fail)
        go_wp2_with (fail)
        go_ret
        exact ⟨by rw [HB.out]; simp [hd], below_drewN ((Below.refl _ _).alloc (Nat.le_refl _) _) _⟩
    · have hd : decide (x ≤ y) = false := by simpa using h2
      go_enter Tryd.func57, Tryd.ntmps57
      go_wp2_with (fail)
      go_quiet (fail)
      go_wp2_with (fail)
      go_ret
      exact ⟨by rw [HB.out]; simp [hd], below_drewN ((Below.refl _ _).alloc (Nat.le_refl _) _) _⟩
  · have hd : decide (0 ≤ x) = false := by simpa using h1
    go_enter Tryd.func57, Tryd.ntmps57
    go_wp2_with (fail)
    go_quiet (fail)
    go_wp2_with (fail)
    go_ret
    exact ⟨by rw [HB.out]; simp [hd], below_drewN ((Below.refl _ _).alloc (Nat.le_refl _) _) _⟩
end
/-! bare: a config with nothing behind its nodes and CPUs. -/
section
open Go.RowKit Go

set_option maxRecDepth 100000 in
theorem zero3 (w : World) : (zeroValue 3).run Tryd.prog w = .ok (.int .i64 0) w := by kernel_rfl
set_option maxRecDepth 100000 in
theorem zero47 (w : World) : (zeroValue 47).run Tryd.prog w = .ok (.agg #[.int .i64 0, .int .i64 0, .int .i64 0, .int .i64 0, .int .i64 0, .int .i64 0, .int .i64 0, .int .i64 0]) w := by kernel_rfl
set_option maxRecDepth 100000 in
theorem infoCfg : (Tryd.prog.info? 50).map (fun i => (i.zero, i.size)) = some (some (.agg (Array.replicate 94 (.int .i64 0))), 94) := by kernel_rfl
set_option maxRecDepth 100000 in
theorem zeroCfg : ∃ Z : Array Value, Z.size = 94 ∧ ∀ w, (zeroValue 50).run Tryd.prog w = .ok (.agg Z) w := ⟨_, by simp, (zero_of_info infoCfg).1⟩

/-- The config with nothing behind its nodes and CPUs, of which the first k rows of the distances are wiped. -/
def bareR (g : Nat → Int) (c n k i : Nat) : Int :=
  if i < 2 then g i else if i < 18 then (if i < 2 + c then g i else 0) else if i < 26 then (if i < 18 + n then g i else 0)
  else if i < 90 then (if (i - 26) / 8 < n then (if (i - 26) / 8 < k ∧ n ≤ (i - 26) % 8 then 0 else g i) else 0) else g i
def bareG (g : Nat → Int) : Nat → Int := bareR g (g 1).toNat (g 0).toNat (g 0).toNat

theorem wiped {A : Array Value} {g h : Nat → Int} (C : Cfg A g) (lo hi : Nat) (hl : lo ≤ hi) (hh : hi ≤ 94) (e : ∀ i, i < 94 → h i = if lo ≤ i ∧ i < hi then 0 else g i) : Cfg (wipe A lo hi) h := by
  refine ⟨by rw [wipe_size A lo hi hl (by rw [C.size]; exact hh)]; exact C.size, fun i hi' => ?_⟩
  rw [wipe_get A lo hi i hl (by rw [C.size]; exact hh), e i hi']
  by_cases h1 : lo ≤ i ∧ i < hi
  · rw [if_pos h1, if_pos h1]
  · rw [if_neg h1, if_neg h1]; exact C.get i hi'

theorem bare3 {A : Array Value} {g : Nat → Int} (C : Cfg A g) (c n : Nat) (hc : c ≤ 16) (hn : n ≤ 8) : Cfg (wipe (wipe (wipe A (2 + c * 1) (2 + 16 * 1)) (18 + n * 1) (18 + 8 * 1)) (26 + n * 8) (26 + 8 * 8)) (bareR g c n 0) := by
  have h1 := wiped (h := fun i => if 2 + c * 1 ≤ i ∧ i < 2 + 16 * 1 then 0 else g i) C (2 + c * 1) (2 + 16 * 1) (by omega) (by decide) (fun i _ => rfl)
  have h2 := wiped (h := fun i => if 18 + n * 1 ≤ i ∧ i < 18 + 8 * 1 then 0 else if 2 + c * 1 ≤ i ∧ i < 2 + 16 * 1 then 0 else g i) h1 (18 + n * 1) (18 + 8 * 1) (by omega) (by decide) (fun i _ => rfl)
  refine wiped h2 (26 + n * 8) (26 + 8 * 8) (by omega) (by decide) (fun i hi => ?_)
  unfold bareR
  by_cases a1 : i < 2
  · simp only [a1, if_true]; rw [if_neg (by omega), if_neg (by omega), if_neg (by omega)]
  · rw [if_neg a1]
    by_cases a2 : i < 18
    · rw [if_pos a2]
      by_cases a3 : i < 2 + c
      · rw [if_pos a3, if_neg (by omega), if_neg (by omega), if_neg (by omega)]
      · rw [if_neg a3, if_neg (by omega), if_neg (by omega), if_pos (by omega)]
    · rw [if_neg a2]
      by_cases a3 : i < 26
      · rw [if_pos a3]
        by_cases a4 : i < 18 + n
        · rw [if_pos a4, if_neg (by omega), if_neg (by omega), if_neg (by omega)]
        · rw [if_neg a4, if_neg (by omega), if_pos (by omega)]
      · rw [if_neg a3]
        by_cases a4 : i < 90
        · rw [if_pos a4]
          by_cases a5 : (i - 26) / 8 < n
          · rw [if_pos a5, if_neg (by omega), if_neg (by omega), if_neg (by omega), if_neg (by omega)]
          · rw [if_neg a5, if_pos (by omega)]
        · rw [if_neg a4, if_neg (by omega), if_neg (by omega), if_neg (by omega)]

theorem bare_step {B : Array Value} {g : Nat → Int} {c n k : Nat} (hn : n ≤ 8) (hk : k < n) (C : Cfg B (bareR g c n k)) : Cfg (wipe B (26 + k * 8 + n * 1) (26 + k * 8 + 8 * 1)) (bareR g c n (k + 1)) := by
  refine wiped C _ _ (by omega) (by omega) (fun i hi => ?_)
  unfold bareR
  by_cases a1 : i < 2
  · simp only [a1, if_true]; rw [if_neg (by omega)]
  · simp only [a1, if_false]
    by_cases a2 : i < 18
    · simp only [a2, if_true]; rw [if_neg (show ¬ (26 + k * 8 + n * 1 ≤ i ∧ _) by omega)]
    · simp only [a2, if_false]
      by_cases a3 : i < 26
      · simp only [a3, if_true]; rw [if_neg (show ¬ (26 + k * 8 + n * 1 ≤ i ∧ _) by omega)]
      · simp only [a3, if_false]
        by_cases a4 : i < 90
        · simp only [a4, if_true]
          by_cases a5 : (i - 26) / 8 < n
          · simp only [a5, if_true]
            by_cases a6 : (i - 26) / 8 = k
            · by_cases a7 : n ≤ (i - 26) % 8
              · rw [if_pos (by omega), if_pos (by omega)]
              · rw [if_neg (by omega), if_neg (by omega), if_neg (by omega)]
            · by_cases a7 : (i - 26) / 8 < k ∧ n ≤ (i - 26) % 8
              · rw [if_pos (by omega), if_neg (by omega), if_pos a7]
              · rw [if_neg (by omega), if_neg (by omega), if_neg a7]
          · simp only [a5, if_false]
            rw [ite_self]
        · simp only [a4, if_false]; rw [if_neg (by omega)]

/-- The two blocks of bare: the config that it turns, and the result's. -/
def bareW (w : World) (B Z : Array Value) (m : Nat) : World := ((w.alloc (.cells B 50)).alloc (.cells Z 50)).drewN m
theorem bareW_own (w : World) (B Z : Array Value) (m : Nat) : (bareW w B Z m).heap[w.heap.size]? = some (.cells B 50 (0, 0)) := heap_alloc2_old w _ _
theorem bareW_res (w : World) (B Z : Array Value) (m : Nat) : (bareW w B Z m).heap[w.heap.size + 1]? = some (.cells Z 50 (0, 0)) := heap_alloc2_new w _ _
theorem bareW_set (w : World) (B Z B' : Array Value) (m : Nat) : (bareW w B Z m).setRow w.heap.size B' = bareW w B' Z m := by
  show (((w.alloc _).alloc _).setRow w.heap.size B').drewN m = _
  rw [setRow_alloc_old _ _ _ _ (by simp), World.setRow_alloc_new]; rfl

theorem still_tail {P : Program} {id : Nat} {Q : Exit → Act → World → Prop} {a : Act} {w : World} {l : List Oper} (n : Nat) (hm : P.follows .mixedOrders = true) (hB : Region.lexTailB .any l.toArray n = true)
    (h : wpStill P l.toArray w.drew (fun a' => wpList P l.toArray Q (l.drop n) a' w.drew) (l.take n) a) : (Code.region id l.toArray true).wp P Q a w :=
  wp_region_still_tail n hm hB h

set_option maxRecDepth 100000 in
theorem bare_any (A : Array Value) (g : Nat → Int) (w : World) (hA : Cfg A g) (hN : 1 ≤ g 0) (hN8 : g 0 ≤ 8) (hC : 1 ≤ g 1) (hC16 : g 1 ≤ 16) :
    Calls Tryd.prog 58 #[.agg A] w fun e w' => ∃ A', e = .returned (.agg A') ∧ Cfg A' (bareG g) ∧ Below w.heap.size w w' := by
  obtain ⟨c, hc⟩ := Int.eq_ofNat_of_zero_le (show 0 ≤ g 1 by omega)
  obtain ⟨n, hn⟩ := Int.eq_ofNat_of_zero_le (show 0 ≤ g 0 by omega)
  have HG := Lib.hid (show bareG g = bareR g c n n by unfold bareG; rw [hc, hn]; rfl)
  have H0 := Lib.hid hn
  have hc1 : 1 ≤ c := by omega
  have hc2 : c ≤ 16 := by omega
  have hn1 : 1 ≤ n := by omega
  have hn2 : n ≤ 8 := by omega
  have C3 := bare3 hA c n hc2 hn2
  have z := hA.size
  have a0 : A[0]? = some (.int .i64 n) := by rw [← hn]; exact hA.get 0 (by decide)
  have a1 : A[1]? = some (.int .i64 c) := by rw [← hc]; exact hA.get 1 (by decide)
  obtain ⟨Z, hz, hZ⟩ := zeroCfg
  have HZ := Lib.hid hz
  clear hz hA hc hn hN hN8 hC hC16
  have s1 := run_slice_from (P := Tryd.prog) Tryd.underlying46 size3 c hc2
  have s2 := run_slice_from (P := Tryd.prog) Tryd.underlying47 size3 n hn2
  have s3 := run_slice_from (P := Tryd.prog) Tryd.underlying48 size47 n hn2
  have K1 := fun B T m (hB : B.size = 94) => run_clear_from (P := Tryd.prog) (s := 1) Tryd.underlying88 zero3 rfl (by decide) T w.heap.size 2 16 c hc2 _ B _ (bareW_own w B Z m) (by omega)
  have K2 := fun B T m (hB : B.size = 94) => run_clear_from (P := Tryd.prog) (s := 1) Tryd.underlying88 zero3 rfl (by decide) T w.heap.size 18 8 n hn2 _ B _ (bareW_own w B Z m) (by omega)
  have K3 := fun B T m (hB : B.size = 94) => run_clear_from (P := Tryd.prog) (s := 8) Tryd.underlying90 zero47 rfl (by decide) T w.heap.size 26 8 n hn2 _ B _ (bareW_own w B Z m) (by omega)
  simp only [bareW_set] at K1 K2 K3
  have k1 := fun T => K1 A T 0 z
  have z1 : (wipe A (2 + c * 1) (2 + 16 * 1)).size = 94 := by rw [wipe_size _ _ _ (by omega) (by omega), z]
  have k2 := fun T => K2 _ T 0 z1
  have z2 : (wipe (wipe A (2 + c * 1) (2 + 16 * 1)) (18 + n * 1) (18 + 8 * 1)).size = 94 := by rw [wipe_size _ _ _ (by omega) (by omega), z1]
  have k3 := fun T => K3 _ T 0 z2
  have b0 : (wipe A (2 + c * 1) (2 + 16 * 1))[0]? = some (.int .i64 n) := by rw [wipe_get _ _ _ _ (by omega) (by omega), if_neg (by omega), a0]
  have b1 : (wipe (wipe A (2 + c * 1) (2 + 16 * 1)) (18 + n * 1) (18 + 8 * 1))[0]? = some (.int .i64 n) := by rw [wipe_get _ _ _ _ (by omega) (by omega), if_neg (by omega), b0]
  have b2 : (wipe (wipe (wipe A (2 + c * 1) (2 + 16 * 1)) (18 + n * 1) (18 + 8 * 1)) (26 + n * 8) (26 + 8 * 8))[0]? = some (.int .i64 n) := by rw [wipe_get _ _ _ _ (by omega) (by omega), if_neg (by omega), b1]
  generalize wipe (wipe (wipe A (2 + c * 1) (2 + 16 * 1)) (18 + n * 1) (18 + 8 * 1)) (26 + n * 8) (26 + 8 * 8) = B3 at k3 b2 C3
  generalize wipe (wipe A (2 + c * 1) (2 + 16 * 1)) (18 + n * 1) (18 + 8 * 1) = B2 at k2 k3 b1
  generalize wipe A (2 + c * 1) (2 + 16 * 1) = B1 at k1 k2 b0
  clear K1 K2 K3 z1 z2 z
  have KL := Lib.hid (fun B k T m (hB : B.size = 94) => run_clear_from (P := Tryd.prog) (s := 1) Tryd.underlying88 zero3 rfl (by decide) T w.heap.size (26 + k * 8) 8 n hn2 (bareW w B Z m) B _ (bareW_own w B Z m))
  have HC := Lib.hid C3
  clear C3
  unfold bareW at k1 k2 k3
  simp only [World.drewN_zero] at k1 k2 k3
  go_enter Tryd.func58, Tryd.ntmps58
  go_wp2_with (fail)
  go_loopw [3, 18] (fun _ x wr => ∃ k : Nat, ∃ B m, k ≤ n ∧ x = .int .i64 k ∧ Hid (Cfg B (bareR g c n k)) ∧ wr = ((w.alloc (.cells B 50)).alloc (.cells Z 50)).drewN m) (fun _ x _ => n - (intOf x).toNat)
  case atStart => exact ⟨0, B3, 0, Nat.zero_le _, rfl, HC, rfl⟩
  case round =>
    obtain ⟨k, B, m, hk, rfl, HK, rfl⟩ := hrel
    by_cases hlt : k < n
    · have e0 : B[0]? = some (.int .i64 n) := by
        rw [← H0.out]; exact HK.out.get 0 (by decide)
      have HN := Lib.hid (bare_step hn2 hlt HK.out)
      have kk := fun T m => KL.out B k T m HK.out.size (by rw [HK.out.size]; omega)
      simp only [bareW_set] at kk
      unfold bareW at kk
      generalize wipe B (26 + k * 8 + n * 1) (26 + k * 8 + 8 * 1) = B' at HN kk
      go_wp2_with (fail)
      refine still_tail 6 (by kernel_rfl) (by kernel_rfl) ?_
      simp only [List.take_succ_cons, List.take_zero, List.drop_succ_cons, List.drop_zero]
      have ik : (k : Int) < 8 := by omega
      repeat still_step
      refine wpStill_nil ?_
      go_wp2_with (fail)
      go_roundw
      case rel => exact ⟨k + 1, B', _, by omega, by go_num, HN, rfl⟩
      case measure => simp [intOf]; omega
    · obtain rfl : k = n := by omega
      have HL := Lib.hid (bareW_own w B Z m)
      have HI := Lib.hid (show (Tryd.prog.info? 50).map (·.size) = some B.size by rw [HK.out.size]; kernel_rfl)
      have HS := Lib.hid (show (storeVar 50 ⟨w.heap.size + 1, 0, none⟩ (.agg B)).run Tryd.prog (bareW w B Z m) = .ok () (bareW w B B m) by
        rw [run_storeVar_row _ _ _ _ Z B (bareW_res w B Z m) (by rw [HK.out.size]; kernel_rfl) (by rw [HZ.out, HK.out.size]) HK.out.one]
        show Result.ok () (((w.alloc _).alloc _).setRow (w.heap.size + 1) B |>.drewN m) = _
        rw [show w.heap.size + 1 = (w.alloc (.cells B 50)).heap.size by simp, World.setRow_alloc_new]; rfl)
      have HR := Lib.hid (bareW_res w B B m)
      unfold bareW at HL HS HR
      clear k1 k2 k3
      go_wp2_with (first
        | (refine wpList_load_row rfl 50 _ rfl w.heap.size rfl 50 B (0, 0) _ HL.out Tryd.underlying50 rfl HI.out ?_)
        | (refine wpList_store_run rfl 50 _ _ rfl (w.heap.size + 1) B _ rfl rfl HS.out ?_))
      refine bodyPost_ret (v := .agg B) ?_ rfl ⟨B, rfl, by rw [HG.out]; exact HK.out, ?_⟩
      · exact results_cell_row rfl _ _ _ _ B (0, 0) _ rfl HR.out Tryd.underlying50 rfl HI.out
      · exact below_drewN (((Below.refl _ _).alloc (Nat.le_refl _) _).alloc (by simp) _) _
end
/-! Two configs compared. -/
section
open Go.RowKit Go

theorem part_agg {P : Program} {w : World} {t : TypeId} {xs : Array Value} {o n : Nat} (ha : ∀ w, (isAgg t).run P w = .ok true w) (hs : ∀ w, (sizeOf t).run P w = .ok n w) : (part t xs o).run P w = .ok (.agg (xs.extract o (o + n))) w := by
  simp [part, Sem.run_bind, ha, hs]

theorem eqFields_step {P : Program} {w : World} {d : Nat} {xs ys : Array Value} {f : Field} {fs : List Field} {u v : Value} {b c : Bool} (hn : f.name ≠ "_") (h1 : (part f.type xs f.offset).run P w = .ok u w) (h2 : (part f.type ys f.offset).run P w = .ok v w)
    (h3 : (Op.equalIn d f.type u v).run P w = .ok b w) (h4 : (Op.eqFields d xs ys fs).run P w = .ok c w) : (Op.eqFields d xs ys (f :: fs)).run P w = .ok (b && c) w := by
  simp only [Op.eqFields, hn, ne_eq, not_false_eq_true, if_true, Sem.run_bind, h1, h2, h3, Result.andThen_ok]
  cases b <;> simp [h4]

/-- Two configs are alike. -/
def cfgEq (g h : Nat → Int) : Bool :=
  (g 0 == h 0) && ((g 1 == h 1) && ((allR 16 fun i => g (2 + i) == h (2 + i)) && ((allR 8 fun i => g (18 + i) == h (18 + i)) && ((allR 8 fun a => allR 8 fun i => g (26 + a * 8 + i) == h (26 + a * 8 + i)) &&
    ((g 90 == h 90) && ((g 91 == h 91) && ((g 92 == h 92) && ((g 93 == h 93) && true))))))))
set_option maxRecDepth 100000 in
theorem agg3 (w : World) : (isAgg 3).run Tryd.prog w = .ok false w := by kernel_rfl
set_option maxRecDepth 100000 in
theorem agg47 (w : World) : (isAgg 47).run Tryd.prog w = .ok true w := by kernel_rfl
set_option maxRecDepth 100000 in
theorem agg46 (w : World) : (isAgg 46).run Tryd.prog w = .ok true w := by kernel_rfl
set_option maxRecDepth 100000 in
theorem agg48 (w : World) : (isAgg 48).run Tryd.prog w = .ok true w := by kernel_rfl
set_option maxRecDepth 100000 in
theorem size46 (w : World) : (sizeOf 46).run Tryd.prog w = .ok 16 w := by kernel_rfl
set_option maxRecDepth 100000 in
theorem size48 (w : World) : (sizeOf 48).run Tryd.prog w = .ok 64 w := by kernel_rfl

theorem Cfg.part {A : Array Value} {g : Nat → Int} (C : Cfg A g) (o n : Nat) (h : o + n ≤ 94) (i : Nat) (hi : i < n) : (A.extract o (o + n))[i]? = some (.int .i64 (g (o + i))) := by
  rw [Array.getElem?_extract, if_pos (by rw [C.size]; omega)]
  exact C.get _ (by omega)

set_option maxRecDepth 100000 in
theorem equal_cfg (w : World) (A B : Array Value) (g h : Nat → Int) (CA : Cfg A g) (CB : Cfg B h) :
    (Op.equalIn 10000 50 (.agg A) (.agg B)).run Tryd.prog w = .ok (cfgEq g h) w := by
  rw [show (10000 : Nat) = 9999 + 1 from rfl, run_equalIn_struct w 9999 50 A B (by kernel_rfl) (by kernel_rfl)]
  have int1 : ∀ o, o < 94 → (Op.equalIn 9999 3 (.int .i64 (g o)) (.int .i64 (h o))).run Tryd.prog w = .ok (g o == h o) w := fun o _ => run_equalIn_int w 9998 3 .i64 .i64 _ _ Tryd.underlying3
  have one : ∀ o, o < 94 → (part 3 A o).run Tryd.prog w = .ok (.int .i64 (g o)) w ∧ (part 3 B o).run Tryd.prog w = .ok (.int .i64 (h o)) w := fun o ho => ⟨part_int agg3 (CA.get o ho), part_int agg3 (CB.get o ho)⟩
  unfold cfgEq
  rw [show (Tryd.prog.fieldsOf 50).toList = [⟨ "Nodes", 3, 0, false, "", "", 0⟩, ⟨ "CPUs", 3, 1, false, "", "", 8⟩, ⟨ "Home", 46, 2, false, "", "", 16⟩, ⟨ "Frames", 47, 18, false, "", "", 144⟩,
    ⟨ "Distance", 48, 26, false, "", "", 208⟩, ⟨ "Slots", 3, 90, false, "", "", 720⟩, ⟨ "Min", 3, 91, false, "", "", 728⟩, ⟨ "Low", 3, 92, false, "", "", 736⟩, ⟨ "High", 3, 93, false, "", "", 744⟩] by kernel_rfl]
  refine eqFields_step (by decide) (one 0 (by decide)).1 (one 0 (by decide)).2 (int1 0 (by decide)) ?_
  refine eqFields_step (by decide) (one 1 (by decide)).1 (one 1 (by decide)).2 (int1 1 (by decide)) ?_
  refine eqFields_step (by decide) (part_agg agg46 size46) (part_agg agg46 size46)
    (equal_ints w _ _ Tryd.underlying46 Tryd.underlying3 size3 agg3 (CA.part 2 16 (by decide)) (CB.part 2 16 (by decide))) ?_
  refine eqFields_step (by decide) (part_agg agg47 size47) (part_agg agg47 size47)
    (equal_ints w _ _ Tryd.underlying47 Tryd.underlying3 size3 agg3 (CA.part 18 8 (by decide)) (CB.part 18 8 (by decide))) ?_
  refine eqFields_step (by decide) (part_agg agg48 size48) (part_agg agg48 size48) (run_equalIn_array (d := 9998) w _ _ (fun a => allR 8 fun i => g (26 + a * 8 + i) == h (26 + a * 8 + i)) Tryd.underlying48 size47 (fun a ha =>
    ⟨_, _, part_agg agg47 size47, part_agg agg47 size47,
      equal_ints w (fun i => g (26 + a * 8 + i)) (fun i => h (26 + a * 8 + i)) Tryd.underlying47 Tryd.underlying3 size3 agg3
        (fun i hi => by rw [Array.getElem?_extract, if_pos (by simp [CA.size]; omega), CA.part 26 64 (by decide) _ (by omega), Nat.add_assoc])
        (fun i hi => by rw [Array.getElem?_extract, if_pos (by simp [CB.size]; omega), CB.part 26 64 (by decide) _ (by omega), Nat.add_assoc])⟩)) ?_
  refine eqFields_step (by decide) (one 90 (by decide)).1 (one 90 (by decide)).2 (int1 90 (by decide)) ?_
  refine eqFields_step (by decide) (one 91 (by decide)).1 (one 91 (by decide)).2 (int1 91 (by decide)) ?_
  refine eqFields_step (by decide) (one 92 (by decide)).1 (one 92 (by decide)).2 (int1 92 (by decide)) ?_
  refine eqFields_step (by decide) (one 93 (by decide)).1 (one 93 (by decide)).2 (int1 93 (by decide)) ?_
  rfl

theorem cfgEq_iff (g h : Nat → Int) : cfgEq g h = true ↔ ∀ i, i < 94 → g i = h i := by
  constructor
  · intro e i hi
    simp only [cfgEq, Bool.and_eq_true, beq_iff_eq, and_true] at e
    obtain ⟨e0, e1, e2, e3, e4, e5, e6, e7, e8⟩ := e
    have f2 := of_allR e2
    have f3 := of_allR e3
    have f4 := of_allR e4
    by_cases a1 : i < 2
    · rcases (show i = 0 ∨ i = 1 by omega) with rfl | rfl <;> assumption
    · by_cases a2 : i < 18
      · have := f2 (i - 2) (by omega)
        rw [show 2 + (i - 2) = i by omega] at this
        simpa using this
      · by_cases a3 : i < 26
        · have := f3 (i - 18) (by omega)
          rw [show 18 + (i - 18) = i by omega] at this
          simpa using this
        · by_cases a4 : i < 90
          · have := of_allR (f4 ((i - 26) / 8) (by omega)) ((i - 26) % 8) (by omega)
            rw [show 26 + (i - 26) / 8 * 8 + (i - 26) % 8 = i by omega] at this
            simpa using this
          · rcases (show i = 90 ∨ i = 91 ∨ i = 92 ∨ i = 93 by omega) with rfl | rfl | rfl | rfl <;> assumption
  · intro e
    simp only [cfgEq, Bool.and_eq_true, beq_iff_eq, and_true]
    exact ⟨e 0 (by decide), e 1 (by decide), allR_true (fun i hi => by simpa using e _ (by omega)), allR_true (fun i hi => by simpa using e _ (by omega)),
      allR_true (fun a ha => allR_true (fun i hi => by simpa using e _ (by omega))), e 90 (by decide), e 91 (by decide), e 92 (by decide), e 93 (by decide)⟩
end
/-! May: whether a config may be. -/
section
open Go.RowKit Go

theorem Cfg.unique {A B : Array Value} {g : Nat → Int} (h1 : Cfg A g) (h2 : Cfg B g) : A = B := by
  apply Array.ext_getElem?
  intro i
  by_cases h : i < 94
  · rw [h1.get i h, h2.get i h]
  · rw [Array.getElem?_eq_none (by rw [h1.size]; omega), Array.getElem?_eq_none (by rw [h2.size]; omega)]
theorem Cfg.of (g : Nat → Int) : ∃ A, Cfg A g := ⟨Array.ofFn (n := 94) fun i => Value.int .i64 (g i), by simp, fun i h => by simp [h]⟩

/-- May. -/
def mayB (g : Nat → Int) : Bool :=
  withinB (g 0) 1 8 && (withinB (g 1) 1 16 && (withinB (g 90) 0 1024 && (homesB g && (framesB g && (distB g && (waterB g && cfgEq g (bareG g)))))))

theorem of_withinB {n a b : Int} (h : withinB n a b = true) : a ≤ n ∧ n ≤ b := of_decide_eq_true h

/-- What the walk of May knows: the block of the config, seen in every world of the class. -/
structure MayHere (A : Array Value) (g : Nat → Int) (w : World) : Prop where
  n : ∀ W, Kept (w.heap.size + 1) (w.alloc (.cells A 50)) W → (loadVar 3 ⟨w.heap.size, 0, none⟩).run Tryd.prog W = .ok (.int .i64 (g 0)) W
  c : ∀ W, Kept (w.heap.size + 1) (w.alloc (.cells A 50)) W → (loadVar 3 ⟨w.heap.size, 1, none⟩).run Tryd.prog W = .ok (.int .i64 (g 1)) W
  s : ∀ W, Kept (w.heap.size + 1) (w.alloc (.cells A 50)) W → (loadVar 3 ⟨w.heap.size, 90, none⟩).run Tryd.prog W = .ok (.int .i64 (g 90)) W
  all : ∀ W, Kept (w.heap.size + 1) (w.alloc (.cells A 50)) W → (loadVar 50 ⟨w.heap.size, 0, none⟩).run Tryd.prog W = .ok (.agg A) W
theorem mayHere {A : Array Value} {g : Nat → Int} (C : Cfg A g) (w : World) : MayHere A g w := by
  have hc : ∀ i, i < 94 → ∀ W, Kept (w.heap.size + 1) (w.alloc (.cells A 50)) W → (loadVar 3 ⟨w.heap.size, i, none⟩).run Tryd.prog W = .ok (.int .i64 (g i)) W := fun i hi W hW =>
    run_loadVar_cell agg3 (by rw [hW.cell (by omega), cell_of_row _ _ _ _ _ _ (heap_alloc_new w _)]; exact C.get i hi)
  refine ⟨hc 0 (by decide), hc 1 (by decide), hc 90 (by decide), fun W hW => ?_⟩
  exact run_loadVar_row W w.heap.size 50 _ A (0, 0) _ (by rw [hW.below.block _ (by omega)]; exact heap_alloc_new w _) Tryd.underlying50 rfl (by rw [C.size]; kernel_rfl)

set_option maxRecDepth 100000 in
theorem within_kept {B : Nat} {w W : World} {n a b : Int} {v : Bool} (h : withinB n a b = v) (hW : Kept B w W) :
    Calls Tryd.prog 53 #[.int .i64 n, .int .i64 a, .int .i64 b] W fun e w' => e = .returned (.bool v) ∧ Kept B w w' :=
  (within_is h W).mono fun _ _ ⟨h1, h2⟩ => ⟨h1, h2 ▸ hW⟩

set_option maxRecDepth 100000 in
theorem homes_kept {B : Nat} {w W : World} {A : Array Value} {g : Nat → Int} {v : Bool} (hA : Cfg A g) (h0 : withinB (g 0) 1 8 = true) (h1 : withinB (g 1) 1 16 = true) (h : homesB g = v) (hB : B ≤ w.heap.size) (hW : Kept B w W) :
    Calls Tryd.prog 54 #[.agg A] W fun e w' => e = .returned (.bool v) ∧ Kept B w w' :=
  (homes_any A g W hA (of_withinB h0).1 (of_withinB h0).2 (of_withinB h1).1 (of_withinB h1).2).mono fun _ _ ⟨e, b⟩ => ⟨h ▸ e, hW.call hB b⟩
set_option maxRecDepth 100000 in
theorem frames_kept {B : Nat} {w W : World} {A : Array Value} {g : Nat → Int} {v : Bool} (hA : Cfg A g) (h0 : withinB (g 0) 1 8 = true) (h : framesB g = v) (hB : B ≤ w.heap.size) (hW : Kept B w W) :
    Calls Tryd.prog 55 #[.agg A] W fun e w' => e = .returned (.bool v) ∧ Kept B w w' :=
  (framesMay_any A g W hA (of_withinB h0).1 (of_withinB h0).2).mono fun _ _ ⟨e, b⟩ => ⟨h ▸ e, hW.call hB b⟩
set_option maxRecDepth 100000 in
theorem dist_kept {B : Nat} {w W : World} {A : Array Value} {g : Nat → Int} {v : Bool} (hA : Cfg A g) (h0 : withinB (g 0) 1 8 = true) (h : distB g = v) (hB : B ≤ w.heap.size) (hW : Kept B w W) :
    Calls Tryd.prog 56 #[.agg A] W fun e w' => e = .returned (.bool v) ∧ Kept B w w' :=
  (dist_any A g W hA (of_withinB h0).1 (of_withinB h0).2).mono fun _ _ ⟨e, b⟩ => ⟨h ▸ e, hW.call hB b⟩
set_option maxRecDepth 100000 in
theorem water_kept {B : Nat} {w W : World} {A : Array Value} {g : Nat → Int} {v : Bool} (hA : Cfg A g) (h0 : withinB (g 0) 1 8 = true) (h : waterB g = v) (hB : B ≤ w.heap.size) (hW : Kept B w W) :
    Calls Tryd.prog 57 #[.agg A] W fun e w' => e = .returned (.bool v) ∧ Kept B w w' :=
  (water_any A g W hA (of_withinB h0).1 (of_withinB h0).2).mono fun _ _ ⟨e, b⟩ => ⟨h ▸ e, hW.call hB b⟩
set_option maxRecDepth 100000 in
theorem bare_kept {B : Nat} {w W : World} {A A2 : Array Value} {g : Nat → Int} (hA : Cfg A g) (hA2 : Cfg A2 (bareG g)) (h0 : withinB (g 0) 1 8 = true) (h1 : withinB (g 1) 1 16 = true) (hB : B ≤ w.heap.size) (hW : Kept B w W) :
    Calls Tryd.prog 58 #[.agg A] W fun e w' => e = .returned (.agg A2) ∧ Kept B w w' :=
  (bare_any A g W hA (of_withinB h0).1 (of_withinB h0).2 (of_withinB h1).1 (of_withinB h1).2).mono fun _ _ ⟨_, e, c, b⟩ => ⟨(c.unique hA2) ▸ e, hW.call hB b⟩

theorem kept_new {w : World} {ob : Obj} {W : World} (h : Kept (w.heap.size + 1) (w.alloc ob) W) : Below w.heap.size w W :=
  ((Below.refl w.heap.size w).alloc (Nat.le_refl _) ob).trans (h.below.mono (by omega))

set_option maxRecDepth 100000 in
set_option maxHeartbeats 4000000 in
theorem may_any (A : Array Value) (g : Nat → Int) (w : World) (hA : Cfg A g) :
    Calls Tryd.prog 46 #[.agg A] w fun e w' => e = .returned (.bool (mayB g)) ∧ Below w.heap.size w w' := by
  have M := mayHere hA w
  have HA := Lib.hid hA
  obtain ⟨A2, hA2⟩ := Cfg.of (bareG g)
  have HA2 := Lib.hid hA2
  have hq := fun W => equal_cfg W A A2 g (bareG g) hA hA2
  have hB : w.heap.size + 1 ≤ (w.alloc (.cells A 50)).heap.size := by simp
  have HM := Lib.hid (show mayB g = (withinB (g 0) 1 8 && (withinB (g 1) 1 16 && (withinB (g 90) 0 1024 && (homesB g && (framesB g && (distB g && (waterB g && cfgEq g (bareG g)))))))) from rfl)
  cases h0 : withinB (g 0) 1 8
  rotate_left
  cases h1 : withinB (g 1) 1 16
  rotate_left
  cases h2 : withinB (g 90) 0 1024
  rotate_left
  cases h3 : homesB g
  rotate_left
  cases h4 : framesB g
  rotate_left
  cases h5 : distB g
  rotate_left
  cases h6 : waterB g
  rotate_left
  cases h7 : cfgEq g (bareG g)
  all_goals
    obtain ⟨v, hv⟩ : ∃ v, mayB g = v := ⟨_, rfl⟩
    have HV := Lib.hid hv
    rw [HM.out] at hv
    simp only [*, Bool.true_and, Bool.false_and] at hv
    subst hv
    try rw [h7] at hq
    clear HM hA hA2
    have H0 := Lib.hid h0
    clear h0
    try (have H1 := Lib.hid h1; clear h1)
    try (have H2 := Lib.hid h2; clear h2)
    try (have H3 := Lib.hid h3; clear h3)
    try (have H4 := Lib.hid h4; clear h4)
    try (have H5 := Lib.hid h5; clear h5)
    try (have H6 := Lib.hid h6; clear h6)
    try (have H7 := Lib.hid h7; clear h7)
    go_enter Tryd.func46, Tryd.ntmps46
    go_wp2_with (fail)
    refine wp_region_kept (w.heap.size + 1) (by kernel_rfl) (by kernel_rfl) ?_
    repeat (first
      | go_big_quiet_skip
      | (go_big_quiet_want; first
        | (refine quiet_load _ _ rfl rfl M.n ?_; simp only [Act.put, List.setIfInBounds_toArray, List.set_cons_zero, List.set_cons_succ]; go_big_quiet_on)
        | (refine quiet_load _ _ rfl rfl M.c ?_; simp only [Act.put, List.setIfInBounds_toArray, List.set_cons_zero, List.set_cons_succ]; go_big_quiet_on)
        | (refine quiet_load _ _ rfl rfl M.s ?_; simp only [Act.put, List.setIfInBounds_toArray, List.set_cons_zero, List.set_cons_succ]; go_big_quiet_on)
        | (refine quiet_load _ _ rfl rfl M.all ?_; simp only [Act.put, List.setIfInBounds_toArray, List.set_cons_zero, List.set_cons_succ]; go_big_quiet_on)
        | (go_big_quiet_op; first | go_big_quiet_on | (refine ⟨_, fun _ _ => rfl, ?_⟩; go_big_quiet_on) | go_big_quiet_call ((intro hC; first
          | (go_at_call 53; first | exact within_kept H0.out hC | exact within_kept H1.out hC | exact within_kept H2.out hC)
          | (go_at_call 54; exact homes_kept HA.out H0.out H1.out H3.out hB hC)
          | (go_at_call 55; exact frames_kept HA.out H0.out H4.out hB hC)
          | (go_at_call 56; exact dist_kept HA.out H0.out H5.out hB hC)
          | (go_at_call 57; exact water_kept HA.out H0.out H6.out hB hC)
          | (go_at_call 58; exact bare_kept HA.out HA2.out H0.out H1.out hB hC))))))
    refine wpQuiet_nil ?_
    intro W hC
    have HC := Lib.hid (kept_new hC)
    clear hC hq
    go_wp2_with (fail)
    go_ret
    exact ⟨by rw [HV.out]; rfl, HC.out⟩
end
/-! before, Total, asked, First, Node. -/
section
open Go.RowKit Go

set_option maxRecDepth 100000 in
/-- A whole config out of its block. -/
theorem wpList_load_cfg {ops : Array Oper} {rest : List Oper} {o : Oper} {a : Act} {w : World} {Q : Exit → Act → World → Prop} {A : Array Value} {g : Nat → Int} (hw : Region.wanted o (yielded ops a.tmps) = true) (x : Operand) (ho : o.op = .load 50 x) (b : Nat) (hx : a.eval x = .pointer (some ⟨b, 0, none⟩))
    (C : CfgAt w b A g) (h : wpList Tryd.prog ops Q rest (a.put o.dst (.agg A)) w) : wpList Tryd.prog ops Q (o :: rest) a w :=
  BigFrame.wpList_want hw fun _ hK => wp_load_row 50 x ho b hx 50 A (0, 0) _ C.block Tryd.underlying50 rfl (by rw [C.cfg.size]; kernel_rfl) (hK _ _ h)

/-- What a config that may be has. -/
structure Good (g : Nat → Int) : Prop where
  n1 : 1 ≤ g 0
  n2 : g 0 ≤ 8
  c1 : 1 ≤ g 1
  c2 : g 1 ≤ 16
  s1 : 0 ≤ g 90
  s2 : g 90 ≤ 1024
  home : ∀ i : Nat, (i : Int) < g 1 → 0 ≤ g (2 + i) ∧ g (2 + i) ≤ g 0 - 1
  frames : ∀ i : Nat, (i : Int) < g 0 → 4 ≤ g (18 + i) ∧ g (18 + i) ≤ 128
  self : ∀ a : Nat, (a : Int) < g 0 → g (26 + a * 8 + a) = 0
  dist : ∀ a b : Nat, (a : Int) < g 0 → b < a → g (26 + a * 8 + b) = g (26 + b * 8 + a) ∧ 1 ≤ g (26 + a * 8 + b) ∧ g (26 + a * 8 + b) ≤ 255
  min0 : 0 ≤ g 91
  low : g 91 ≤ g 92
  high : g 92 ≤ g 93
  least : ∀ i : Nat, (i : Int) < g 0 → g 93 ≤ g (18 + i)
  behind : ∀ i, i < 94 → g i = bareG g i

theorem good_iff (g : Nat → Int) : mayB g = true ↔ Good g := by
  constructor
  · intro h
    simp only [mayB, Bool.and_eq_true] at h
    obtain ⟨h0, h1, h2, h3, h4, h5, h6, h7⟩ := h
    have e0 := of_withinB h0
    have e1 := of_withinB h1
    have e2 := of_withinB h2
    have e3 := of_allR h3
    have e4 := of_allR h4
    have e5 := of_allR h5
    simp only [waterB, Bool.and_eq_true, decide_eq_true_eq] at h6
    obtain ⟨f0, f1, f2, f3⟩ := h6
    have f4 := (le_minR _ _ _).1 f3
    refine ⟨e0.1, e0.2, e1.1, e1.2, e2.1, e2.2, fun i hi => of_withinB (e3 i (by omega)), fun i hi => of_withinB (e4 i (by omega)), fun a ha => ?_, fun a b ha hb => ?_, f0, f1, f2, fun i hi => f4 i (by omega), (cfgEq_iff _ _).1 h7⟩
    · have := e5 a (by omega)
      simp only [rowB, Bool.and_eq_true] at this
      simpa using this.1
    · have := e5 a (by omega)
      simp only [rowB, Bool.and_eq_true] at this
      have := of_allR this.2 b hb
      simp only [pairB, Bool.and_eq_true] at this
      have h8 := of_withinB this.2
      exact ⟨by simpa using this.1, h8.1, h8.2⟩
  · intro G
    have n1 := G.n1
    have n2 := G.n2
    have c1 := G.c1
    simp only [mayB, Bool.and_eq_true]
    refine ⟨decide_eq_true ⟨G.n1, G.n2⟩, decide_eq_true ⟨G.c1, G.c2⟩, decide_eq_true ⟨G.s1, G.s2⟩, allR_true (fun i hi => decide_eq_true (G.home i (by omega))), allR_true (fun i hi => decide_eq_true (G.frames i (by omega))), allR_true (fun a ha => ?_), ?_, (cfgEq_iff _ _).2 G.behind⟩
    · simp only [rowB, Bool.and_eq_true]
      refine ⟨by simpa using G.self a (by omega), allR_true (fun b hb => ?_)⟩
      simp only [pairB, Bool.and_eq_true]
      obtain ⟨d1, d2, d3⟩ := G.dist a b (by omega) hb
      exact ⟨by simpa using d1, decide_eq_true ⟨d2, d3⟩⟩
    · simp only [waterB, Bool.and_eq_true, decide_eq_true_eq]
      exact ⟨G.min0, G.low, G.high, (le_minR _ _ _).2 (fun i hi => G.least i (by omega))⟩

/-- The frames of the first k nodes. -/
def sumF (g : Nat → Int) : Nat → Int
  | 0 => 0
  | k + 1 => sumF g k + g (18 + k)
theorem sumF_bd (g : Nat → Int) : ∀ k, (∀ i, i < k → 0 ≤ g (18 + i) ∧ g (18 + i) ≤ 128) → 0 ≤ sumF g k ∧ sumF g k ≤ 128 * k
  | 0, _ => by simp [sumF]
  | k + 1, h => by
    have h1 := sumF_bd g k (fun i hi => h i (by omega))
    have h2 := h k (by omega)
    unfold sumF
    omega

/-- Total. -/
def totalI (g : Nat → Int) : Int := if mayB g = true then sumF g (g 0).toNat else 0
end
/-! config's orders, by numbers: all nodes, the nearer ones first. Of no program. -/
section
open Go.RowKit Go

def encN (x : Fin 8) : Value := .int .i64 (x.val : Int)
/-- x is nearer than y, as the node k has it. -/
def nrB (g : Nat → Int) (k : Nat) (x y : Fin 8) : Bool := decide (g (26 + k * 8 + x.val) < g (26 + k * 8 + y.val) ∨ g (26 + k * 8 + x.val) = g (26 + k * 8 + y.val) ∧ x.val < y.val)
/-- The first n nodes. -/
def allN (n : Nat) : Array (Fin 8) := ((List.range n).map (Fin.ofNat 8)).toArray
theorem allN_size (n : Nat) : (allN n).size = n := by simp [allN]
theorem allN_get (n j : Nat) (hn : n ≤ 8) (h : j < n) : ((allN n)[j]!).val = j := by
  rw [getElem!_pos _ _ (by rw [allN_size]; exact h)]
  simp [allN, Fin.ofNat, Nat.mod_eq_of_lt (show j < 8 by omega)]
/-- The order of the node k. -/
def ordL (g : Nat → Int) (k n : Nat) : List (Fin 8) := (allN n).toList.mergeSort fun x y => !(nrB g k y x)
theorem ordL_length (g : Nat → Int) (k n : Nat) : (ordL g k n).length = n := by
  unfold ordL; rw [List.length_mergeSort]; simp [allN]
theorem ordL_perm (g : Nat → Int) (k n : Nat) : (ordL g k n).Perm (allN n).toList := List.mergeSort_perm _ _
theorem ordL_sorted (g : Nat → Int) (k n : Nat) : (ordL g k n).Pairwise fun x y => (!(nrB g k y x)) = true := by
  refine List.pairwise_mergeSort (le := fun x y => !(nrB g k y x)) (fun x y z h1 h2 => ?_) (fun x y => ?_) _
  · unfold nrB at *
    simp only [Bool.not_eq_true', decide_eq_false_iff_not] at *
    omega
  · unfold nrB
    simp only [Bool.or_eq_true, Bool.not_eq_true', decide_eq_false_iff_not]
    omega
theorem allN_nodup (n : Nat) (hn : n ≤ 8) : (allN n).toList.Nodup := by
  simp only [allN]
  refine List.pairwise_map.2 (List.Pairwise.imp_of_mem (fun hx hy h e => ?_) (List.pairwise_lt_range (n := n)))
  simp at hx hy
  have := congrArg Fin.val e
  simp [Fin.ofNat, Nat.mod_eq_of_lt (show _ < 8 from Nat.lt_of_lt_of_le hx hn), Nat.mod_eq_of_lt (show _ < 8 from Nat.lt_of_lt_of_le hy hn)] at this
  omega
theorem mem_allN {n : Nat} (hn : n ≤ 8) {x : Fin 8} : x ∈ (allN n).toList ↔ x.val < n := by
  simp only [allN, List.mem_map, List.mem_range]
  constructor
  · rintro ⟨i, hi, rfl⟩
    simp [Fin.ofNat, Nat.mod_eq_of_lt (show i < 8 by omega)]; omega
  · intro h
    exact ⟨x.val, h, by ext; simp [Fin.ofNat, Nat.mod_eq_of_lt x.isLt]⟩
theorem mem_ordL {g : Nat → Int} {k n : Nat} (hn : n ≤ 8) {x : Fin 8} : x ∈ ordL g k n ↔ x.val < n := by
  rw [(ordL_perm g k n).mem_iff, mem_allN hn]
theorem ordL_nodup {g : Nat → Int} {k n : Nat} (hn : n ≤ 8) : (ordL g k n).Nodup := (ordL_perm g k n).nodup_iff.2 (allN_nodup n hn)
theorem ordL_lt {g : Nat → Int} {k n j : Nat} (hn : n ≤ 8) (hj : j < n) : ((ordL g k n)[j]!).val < n := by
  have hl := ordL_length g k n
  rw [getElem!_pos _ _ (by omega)]
  exact (mem_ordL hn).1 (List.getElem_mem _)
theorem ordL_ne {g : Nat → Int} {k n i j : Nat} (hn : n ≤ 8) (hij : i < j) (hj : j < n) : ((ordL g k n)[i]!).val ≠ ((ordL g k n)[j]!).val := by
  have hl := ordL_length g k n
  rw [getElem!_pos _ _ (by omega), getElem!_pos _ _ (by omega)]
  intro e
  have := (List.pairwise_iff_getElem.1 (ordL_nodup (g := g) (k := k) hn)) i j (by omega) (by omega) hij
  exact this (Fin.ext e)
theorem ordL_le {g : Nat → Int} {k n i j : Nat} (hij : i < j) (hj : j < n) :
    g (26 + k * 8 + ((ordL g k n)[i]!).val) < g (26 + k * 8 + ((ordL g k n)[j]!).val) ∨ g (26 + k * 8 + ((ordL g k n)[i]!).val) = g (26 + k * 8 + ((ordL g k n)[j]!).val) ∧ ((ordL g k n)[i]!).val ≤ ((ordL g k n)[j]!).val := by
  have hl := ordL_length g k n
  rw [getElem!_pos _ _ (by omega), getElem!_pos _ _ (by omega)]
  have := (List.pairwise_iff_getElem.1 (ordL_sorted g k n)) i j (by omega) (by omega) hij
  unfold nrB at this
  simp only [Bool.not_eq_true', decide_eq_false_iff_not] at this
  omega

/-- How far another node is: 1 at least. -/
theorem Good.far {g : Nat → Int} (G : Good g) {a b : Nat} (ha : (a : Int) < g 0) (hb : (b : Int) < g 0) (hne : a ≠ b) : 1 ≤ g (26 + a * 8 + b) := by
  by_cases h : b < a
  · exact (G.dist a b ha h).2.1
  · obtain ⟨h1, h2, _⟩ := G.dist b a hb (by omega)
    omega
theorem ord_first {g : Nat → Int} {k n : Nat} (G : Good g) (hn : g 0 = n) (hk : k < n) : ((ordL g k n)[0]!).val = k := by
  have hn8 : n ≤ 8 := by have := G.n2; omega
  have hl := ordL_length g k n
  have hm : (⟨k, by omega⟩ : Fin 8) ∈ ordL g k n := (mem_ordL hn8).2 hk
  obtain ⟨p, hp, e⟩ := List.getElem_of_mem hm
  by_cases h0 : p = 0
  · subst h0
    rw [getElem!_pos (ordL g k n) 0 hp, e]
  · have h1 := ordL_le (g := g) (k := k) (n := n) (i := 0) (j := p) (by omega) (by omega)
    have h2 := ordL_ne (g := g) (k := k) (n := n) (i := 0) (j := p) hn8 (by omega) (by omega)
    have h3 := ordL_lt (g := g) (k := k) (n := n) (j := 0) hn8 (by omega)
    have e2 : ((ordL g k n)[p]!).val = k := by rw [getElem!_pos (ordL g k n) p hp, e]
    rw [e2] at h1 h2
    have h4 := G.far (a := k) (b := ((ordL g k n)[0]!).val) (by omega) (by omega) (fun h => h2 h.symm)
    have h5 := G.self k (by omega)
    omega
/-- Which nodes are among the first i of the order. -/
def seenB (l : List (Fin 8)) (i j : Nat) : Bool := (List.range i).any fun p => l[p]!.val == j
theorem seenB_succ (l : List (Fin 8)) (i j : Nat) : seenB l (i + 1) j = (seenB l i j || l[i]!.val == j) := by
  simp [seenB, List.range_succ]

theorem not_seen {g : Nat → Int} {n k i : Nat} (hn : n ≤ 8) (hi : i < n) : seenB (ordL g k n) i ((ordL g k n)[i]!).val = false := by
  unfold seenB
  rw [List.any_eq_false]
  intro p hp
  simp at hp
  have := ordL_ne (g := g) (k := k) (n := n) (i := p) (j := i) hn hp hi
  simpa using this
end
/-! policies, by numbers. Of no program. -/
section
open Go

/-- Has a mask a node's bit? -/
def hasM (m n : Nat) : Bool := decide (m / 2 ^ n % 2 = 1)
/-- A mask's nodes among the first n. -/
def inN (m n : Nat) : List Nat := (List.range n).filter (hasM m)
/-- The nearer ones first, as numbers. -/
def nearN (g : Nat → Int) (k n : Nat) : List Nat := (ordL g k n).map Fin.val
/-- From the one on whose place is p modulo how many they are, once round. -/
def rotN (l : List Nat) (p : Nat) : List Nat := (List.range l.length).map fun k => l[(p % l.length + k) % l.length]!
def polL (g : Nat → Int) (n kind mask loc page : Nat) : List Nat :=
  if kind = 0 then nearN g loc n
  else if kind = 1 then nearN g ((inN mask n)[0]!) n
  else if kind = 3 then rotN (inN mask n) page ++ (nearN g loc n).filter (fun x => !hasM mask x)
  else (nearN g loc n).filter (hasM mask)
/-- Are a mask's bits as a kind wants them? -/
def kindB (kind mask : Nat) : Bool := if kind = 0 then decide ((inN mask 8).length = 0) else if kind = 1 then decide ((inN mask 8).length = 1) else if kind = 2 ∨ kind = 3 then decide (0 < (inN mask 8).length) else false
def mayP (g : Nat → Int) (kind mask : Nat) : Bool := mayB g && ((inN mask 8).all (fun i => decide ((i : Int) < g 0)) && kindB kind mask)
def ordE (g : Nat → Int) (kind mask : Nat) (loc page : Int) : Int := if mayP g kind mask = false ∨ page < 0 then 2 else if loc < 0 ∨ g 0 ≤ loc then 7 else 0
def ordQ (g : Nat → Int) (kind mask : Nat) (loc page : Int) : List Nat := if ordE g kind mask loc page = 0 then polL g (g 0).toNat kind mask loc.toNat page.toNat else []
def allowP (kind mask : Nat) (node : Int) : Bool := decide (0 ≤ node) && (decide (node ≤ 7) && (decide (kind ≠ 2) || hasM mask node.toNat))

theorem inN_succ (m n : Nat) : inN m (n + 1) = if hasM m n then inN m n ++ [n] else inN m n := by
  unfold inN
  rw [List.range_succ, List.filter_append]
  by_cases h : hasM m n = true
  · rw [if_pos h, List.filter_cons_of_pos h]; rfl
  · rw [if_neg h, List.filter_cons_of_neg h]; simp
theorem mem_inN {m n x : Nat} : x ∈ inN m n ↔ x < n ∧ hasM m x = true := by
  unfold inN
  rw [List.mem_filter, List.mem_range]
theorem inN_len (m n : Nat) : (inN m n).length ≤ n := by
  have := List.length_filter_le (hasM m) (List.range n)
  rw [List.length_range] at this
  exact this
theorem inN_lt {m n i : Nat} (h : i < (inN m n).length) : (inN m n)[i] < n := (mem_inN.1 (List.getElem_mem h)).1
theorem nearN_len (g : Nat → Int) (k n : Nat) : (nearN g k n).length = n := by
  unfold nearN
  rw [List.length_map, ordL_length]
theorem mem_nearN {g : Nat → Int} {k n x : Nat} (hn : n ≤ 8) : x ∈ nearN g k n ↔ x < n := by
  unfold nearN
  rw [List.mem_map]
  constructor
  · rintro ⟨y, hy, rfl⟩
    exact (mem_ordL hn).1 hy
  · intro h
    exact ⟨⟨x, by omega⟩, (mem_ordL hn).2 h, rfl⟩
theorem nearN_nodup {g : Nat → Int} {k n : Nat} (hn : n ≤ 8) : (nearN g k n).Nodup := by
  unfold nearN
  show List.Pairwise (· ≠ ·) _
  rw [List.pairwise_map]
  exact List.Pairwise.imp (fun h e => h (Fin.ext e)) (ordL_nodup hn)
theorem inN_nodup (m n : Nat) : (inN m n).Nodup := List.Nodup.sublist List.filter_sublist List.nodup_range
theorem rotN_len (l : List Nat) (p : Nat) : (rotN l p).length = l.length := by
  unfold rotN
  rw [List.length_map, List.length_range]
/-- Turned round: the later ones, then the earlier ones. -/
theorem rotN_split (l : List Nat) (p : Nat) : rotN l p = l.drop (p % l.length) ++ l.take (p % l.length) := by
  by_cases h0 : l.length = 0
  · have : l = [] := List.eq_nil_of_length_eq_zero h0
    subst this
    simp [rotN]
  · have hs := Nat.mod_lt p (Nat.pos_of_ne_zero h0)
    unfold rotN
    generalize p % l.length = s at *
    refine List.ext_getElem (by simp; omega) (fun i h1 h2 => ?_)
    rw [List.length_map, List.length_range] at h1
    rw [List.getElem_map, List.getElem_range, List.getElem_append]
    split
    · next h3 =>
      rw [List.length_drop] at h3
      rw [List.getElem_drop, Nat.mod_eq_of_lt (by omega), getElem!_pos l _ (by omega)]
    · next h3 =>
      rw [List.length_drop] at h3
      rw [List.getElem_take, getElem!_pos l _ (Nat.mod_lt _ (by omega))]
      refine getElem_congr_idx ?_
      rw [List.length_drop]
      have : (s + i) % l.length = s + i - l.length := by
        rw [Nat.mod_eq_sub_mod (by omega), Nat.mod_eq_of_lt (by omega)]
      omega
theorem rotN_perm (l : List Nat) (p : Nat) : (rotN l p).Perm l := by
  rw [rotN_split]
  refine List.perm_append_comm.trans ?_
  rw [List.take_append_drop]
theorem kindB_pos {kind mask : Nat} (h : kindB kind mask = true) : kind ≤ 3 ∧ (kind = 1 → (inN mask 8).length = 1) ∧ (kind = 2 ∨ kind = 3 → 0 < (inN mask 8).length) ∧ (kind = 0 → (inN mask 8).length = 0) := by
  unfold kindB at h
  by_cases h0 : kind = 0
  · subst h0; simp at h; simp [h]
  · by_cases h1 : kind = 1
    · subst h1; simp at h; simp [h]
    · by_cases h2 : kind = 2 ∨ kind = 3
      · rw [if_neg h0, if_neg h1, if_pos h2] at h
        exact ⟨by omega, fun e => absurd e h1, fun _ => of_decide_eq_true h, fun e => absurd e h0⟩
      · rw [if_neg h0, if_neg h1, if_neg h2] at h
        cases h
/-- All of the mask's nodes are nodes. -/
theorem inN_all {g : Nat → Int} {mask n : Nat} (hn : g 0 = n) (hn8 : n ≤ 8) (h : (inN mask 8).all (fun i => decide ((i : Int) < g 0)) = true) : inN mask n = inN mask 8 := by
  have : ∀ j, n ≤ j → j ≤ 8 → inN mask j = inN mask n := by
    intro j hj hj8
    obtain ⟨t, rfl⟩ : ∃ t, j = n + t := ⟨j - n, by omega⟩
    clear hj
    induction t with
    | zero => rfl
    | succ t ih =>
      rw [show n + (t + 1) = (n + t) + 1 by omega, inN_succ, if_neg ?_]
      · exact ih (by omega)
      · intro hm
        have h2 := List.all_eq_true.1 h (n + t) (mem_inN.2 ⟨by omega, hm⟩)
        have h3 := of_decide_eq_true h2
        omega
  exact (this 8 hn8 (Nat.le_refl _)).symm
end
/-! policy, the document's: has, Allowed; alike; lists of numbers that lie. -/
section
open Go.RowKit Go
attribute [local go_sem] Oper.semAt_some

/-- Numbers that lie there. -/
def LstAt (w : World) (v : Value) (L : List Nat) : Prop := ∃ a c, v = .slice a L.length c ∧ ∀ (i x : Nat), L[i]? = some x → ∃ b o, a = some ⟨b, o, none⟩ ∧ w.cell? ⟨b, o + i, none⟩ = some (.int .i64 (x : Int))
theorem LstAt.later {w w' : World} {v : Value} {L : List Nat} (h : LstAt w v L) (hb : Below w.heap.size w w') : LstAt w' v L := by
  obtain ⟨a, c, e, hc⟩ := h
  refine ⟨a, c, e, fun i x hi => ?_⟩
  obtain ⟨b, o, e2, h2⟩ := hc i x hi
  exact ⟨b, o, e2, by rw [hb.cell (World.block_lt_of_cell? _ _ h2)]; exact h2⟩
theorem LstAt.nil (w : World) (a : Option Addr) (c : Nat) : LstAt w (.slice a 0 c) [] := ⟨a, c, rfl, fun i x hi => by simp at hi⟩
/-- A policy. -/
abbrev polV (k m : Nat) : Value := .agg #[.int .u8 (k : Int), .int .u8 (m : Int)]
theorem half_step (m i : Nat) : m / 2 ^ i / 2 = m / 2 ^ (i + 1) := by rw [Nat.div_div_eq_div_mul, Nat.pow_succ]
set_option maxRecDepth 100000 in
set_option maxHeartbeats 2000000 in
theorem rhas_any (m : Nat) (hm : m ≤ 255) (n : Int) (w : World) : Calls Tryd.prog 64 #[.int .u8 (m : Int), .int .i64 n] w fun e w' => e = .returned (.bool (decide (0 ≤ n) && (decide (n ≤ 7) && hasM m n.toNat))) ∧ w = w' := by
  by_cases h0 : n < 0
  · rw [show decide (0 ≤ n) = false from decide_eq_false (by omega), Bool.false_and]
    go_enter Tryd.func64, Tryd.ntmps64
    go_wp2_with (fail)
    go_ret
    exact ⟨rfl, rfl⟩
  · by_cases h7 : 7 < n
    · rw [show decide (n ≤ 7) = false from decide_eq_false (by omega), Bool.false_and, Bool.and_false]
      go_enter Tryd.func64, Tryd.ntmps64
      go_wp2_with (fail)
      go_ret
      exact ⟨rfl, rfl⟩
    · obtain ⟨N, rfl⟩ : ∃ N : Nat, n = N := ⟨n.toNat, by omega⟩
      have hN : N ≤ 7 := by omega
      rw [show decide (0 ≤ (N : Int)) = true from decide_eq_true (by omega), show decide ((N : Int) ≤ 7) = true from decide_eq_true (by omega), Bool.true_and, Bool.true_and, Int.toNat_natCast]
      have hmI : (m : Int) ≤ 255 := by omega
      go_enter Tryd.func64, Tryd.ntmps64
      go_wp2_with (fail)
      go_loopw [5, 6] (fun v iv wr => ∃ (i q : Nat), iv = .int .i64 i ∧ i ≤ N ∧ v = .int .i64 q ∧ q ≤ 255 ∧ Hid (q = m / 2 ^ i) ∧ wr = w) (fun _ iv _ => N - (intOf iv).toNat)
      case atStart => exact ⟨0, m, rfl, Nat.zero_le _, rfl, hm, Lib.hid (by simp), rfl⟩
      case round =>
        obtain ⟨i, q, rfl, hi, rfl, hq, HQ, hw⟩ := hrel
        have hw := hw.symm
        subst hw
        by_cases hlt : i < N
        · have hltI : (i : Int) < N := by omega
          go_wp2_with (fail)
          go_roundw
          case rel => exact ⟨i + 1, q / 2, by go_num, hlt, by first | rfl | (congr 1; omega), by omega, Lib.hid (by rw [HQ.out]; exact half_step m i), trivial⟩
          case measure => simp [intOf]; omega
        · obtain rfl : i = N := by omega
          have HH := Lib.hid (show hasM m i = decide (q % 2 = 1) from by unfold hasM; rw [HQ.out])
          rcases (show q % 2 = 1 ∨ q % 2 = 0 by omega) with h1 | h1
          · have h2 : (q : Int) % 2 = 1 := by omega
            go_wp2_with (fail)
            go_ret
            refine ⟨?_, rfl⟩
            rw [HH.out, h1]
            rfl
          · have h2 : (q : Int) % 2 = 0 := by omega
            go_wp2_with (fail)
            go_ret
            refine ⟨?_, rfl⟩
            rw [HH.out, h1]
            rfl
/-- The same numbers? -/
def sameL (L M : List Nat) : Bool := decide (L = M)
end
/-! policy: the config's and the policy's boxes, and their loads. -/
section
open Go.RowKit Go
attribute [local go_sem] Oper.semAt_some

/-- The config's and the policy's boxes. -/
structure CpB (w : World) (A : Array Value) (g : Nat → Int) (k m : Nat) (W : World) : Prop where
  cfg : CfgAt W w.heap.size A g
  k0 : W.cell? ⟨w.heap.size + 1, 0, none⟩ = some (.int .u8 (k : Int))
  k1 : W.cell? ⟨w.heap.size + 1, 1, none⟩ = some (.int .u8 (m : Int))
  bel : Below w.heap.size w W
theorem CpB.later {w W W' : World} {A : Array Value} {g : Nat → Int} {k m : Nat} (h : CpB w A g k m W) (hb : Below W.heap.size W W') : CpB w A g k m W' :=
  ⟨h.cfg.later hb, by rw [hb.cell (World.block_lt_of_cell? _ _ h.k0)]; exact h.k0, by rw [hb.cell (World.block_lt_of_cell? _ _ h.k1)]; exact h.k1, h.bel.trans (hb.mono h.bel.size)⟩
theorem cpb_new (w : World) {A : Array Value} {g : Nat → Int} (hA : Cfg A g) (k m : Nat) : CpB w A g k m ((w.alloc (.cells A 50)).alloc (.cells #[.int .u8 (k : Int), .int .u8 (m : Int)] 25)) := by
  refine ⟨(CfgAt.new w hA).later ((Below.refl _ _).alloc (Nat.le_refl _) _), ?_, ?_, ((Below.refl _ _).alloc (Nat.le_refl _) _).alloc (by simp) _⟩
  · have h := cell_of_row _ _ 0 _ _ _ (heap_alloc2_new w (.cells A 50) (.cells #[.int .u8 (k : Int), .int .u8 (m : Int)] 25))
    exact h
  · have h := cell_of_row _ _ 1 _ _ _ (heap_alloc2_new w (.cells A 50) (.cells #[.int .u8 (k : Int), .int .u8 (m : Int)] 25))
    exact h
theorem load_cfgP {W : World} {b : Nat} {A : Array Value} {g : Nat → Int} (C : CfgAt W b A g) : (loadVar 50 ⟨b, 0, none⟩).run Tryd.prog W = .ok (.agg A) W :=
  run_loadVar_row (P := Tryd.prog) W b 50 50 A (0, 0) _ C.block Tryd.underlying50 rfl (by rw [C.cfg.size]; kernel_rfl)
theorem sizePolB : (Tryd.prog.info? 25).map (·.size) = some 2 := by kernel_rfl
theorem load_pol {W : World} {b k m : Nat} (h0 : W.cell? ⟨b, 0, none⟩ = some (.int .u8 (k : Int))) (h1 : W.cell? ⟨b, 1, none⟩ = some (.int .u8 (m : Int))) :
    (loadVar 25 ⟨b, 0, none⟩).run Tryd.prog W = .ok (polV k m) W :=
  run_loadVar_mid (P := Tryd.prog) W b 0 25 [.int .u8 (k : Int), .int .u8 (m : Int)] _ (fun j v hj => by
    match j, hj with
    | 0, hj => simp at hj; subst hj; exact h0
    | 1, hj => simp at hj; subst hj; exact h1) Tryd.underlying25 rfl sizePolB
theorem CpB.loads {w W : World} {A : Array Value} {g : Nat → Int} {k m : Nat} (h : CpB w A g k m W) : (∀ U, Kept W.heap.size W U → (loadVar 50 ⟨w.heap.size, 0, none⟩).run Tryd.prog U = .ok (.agg A) U) ∧ ∀ U, Kept W.heap.size W U → (loadVar 25 ⟨w.heap.size + 1, 0, none⟩).run Tryd.prog U = .ok (polV k m) U :=
  ⟨fun _ hU => load_cfgP (h.later hU.below).cfg, fun _ hU => load_pol (h.later hU.below).k0 (h.later hU.below).k1⟩
end
/-! The document's own answer: whether a config may be. -/
section
open Go.RowKit Go

def homeR (g : Nat → Int) (i : Nat) : Bool := if (i : Int) < g 1 then decide (0 ≤ g (2 + i)) && decide (g (2 + i) < g 0) else g (2 + i) == 0
def frameR (g : Nat → Int) (i : Nat) : Bool := if (i : Int) < g 0 then decide (4 ≤ g (18 + i)) && (decide (g (18 + i) ≤ 128) && decide (g 93 ≤ g (18 + i))) else g (18 + i) == 0
def cellR (g : Nat → Int) (i k : Nat) : Bool :=
  if (i : Int) < g 0 ∧ (k : Int) < g 0 ∧ i ≠ k then decide (1 ≤ g (26 + i * 8 + k)) && (decide (g (26 + i * 8 + k) ≤ 255) && g (26 + i * 8 + k) == g (26 + k * 8 + i)) else g (26 + i * 8 + k) == 0
def rowR (g : Nat → Int) (i : Nat) : Bool := frameR g i && allR 8 (cellR g i)
def headR (g : Nat → Int) : Bool := withinB (g 0) 1 8 && (withinB (g 1) 1 16 && withinB (g 90) 0 1024)
def tailR (g : Nat → Int) : Bool := decide (0 ≤ g 91) && (decide (g 91 ≤ g 92) && decide (g 92 ≤ g 93))
def mayR (g : Nat → Int) : Bool := headR g && (allR 16 (homeR g) && (allR 8 (rowR g) && tailR g))

theorem bareG_at (g : Nat → Int) (c n : Nat) (hc : g 1 = c) (hn : g 0 = n) (i : Nat) : bareG g i =
    if i < 2 then g i else if i < 18 then (if i < 2 + c then g i else 0) else if i < 26 then (if i < 18 + n then g i else 0)
    else if i < 90 then (if (i - 26) / 8 < n ∧ (i - 26) % 8 < n then g i else 0) else g i := by
  unfold bareG
  rw [hc, hn]
  simp only [Int.toNat_natCast]
  unfold bareR
  by_cases a1 : i < 2
  · simp only [a1, if_true]
  · simp only [a1, if_false]
    by_cases a2 : i < 18
    · simp only [a2, if_true]
    · simp only [a2, if_false]
      by_cases a3 : i < 26
      · simp only [a3, if_true]
      · simp only [a3, if_false]
        by_cases a4 : i < 90
        · simp only [a4, if_true]
          by_cases a5 : (i - 26) / 8 < n
          · by_cases a6 : (i - 26) % 8 < n
            · rw [if_pos a5, if_neg (by omega), if_pos ⟨a5, a6⟩]
            · rw [if_pos a5, if_pos (by omega), if_neg (by omega)]
          · rw [if_neg a5, if_neg (by omega)]
        · simp only [a4, if_false]

theorem mayR_good (g : Nat → Int) : mayR g = true ↔ Good g := by
  constructor
  · intro h
    simp only [mayR, headR, tailR, Bool.and_eq_true, decide_eq_true_eq] at h
    obtain ⟨⟨h0, h1, h2⟩, h3, h4, h5, h6, h7⟩ := h
    have e0 := of_withinB h0
    have e1 := of_withinB h1
    have e2 := of_withinB h2
    obtain ⟨n, hn⟩ := Int.eq_ofNat_of_zero_le (show 0 ≤ g 0 by omega)
    obtain ⟨c, hc⟩ := Int.eq_ofNat_of_zero_le (show 0 ≤ g 1 by omega)
    have hh : ∀ i : Nat, i < 16 → if i < c then 0 ≤ g (2 + i) ∧ g (2 + i) < n else g (2 + i) = 0 := fun i hi => by
      have := of_allR h3 i hi
      unfold homeR at this
      rw [hc, hn] at this
      by_cases a : (i : Int) < c
      · rw [if_pos a] at this; rw [if_pos (by omega)]; simpa using this
      · rw [if_neg a] at this; rw [if_neg (by omega)]; simpa using this
    have hf : ∀ i : Nat, i < 8 → (if i < n then 4 ≤ g (18 + i) ∧ g (18 + i) ≤ 128 ∧ g 93 ≤ g (18 + i) else g (18 + i) = 0) := fun i hi => by
      have := of_allR h4 i hi
      simp only [rowR, Bool.and_eq_true] at this
      have := this.1
      unfold frameR at this
      rw [hn] at this
      by_cases a : (i : Int) < n
      · rw [if_pos a] at this; rw [if_pos (by omega)]; simpa using this
      · rw [if_neg a] at this; rw [if_neg (by omega)]; simpa using this
    have hd : ∀ i k : Nat, i < 8 → k < 8 → (if i < n ∧ k < n ∧ i ≠ k then 1 ≤ g (26 + i * 8 + k) ∧ g (26 + i * 8 + k) ≤ 255 ∧ g (26 + i * 8 + k) = g (26 + k * 8 + i) else g (26 + i * 8 + k) = 0) := fun i k hi hk => by
      have := of_allR h4 i hi
      simp only [rowR, Bool.and_eq_true] at this
      have := of_allR this.2 k hk
      unfold cellR at this
      rw [hn] at this
      by_cases a : (i : Int) < n ∧ (k : Int) < n ∧ i ≠ k
      · rw [if_pos a] at this; rw [if_pos ⟨by omega, by omega, a.2.2⟩]; simpa using this
      · rw [if_neg a] at this; rw [if_neg (by omega)]; simpa using this
    refine ⟨e0.1, e0.2, e1.1, e1.2, e2.1, e2.2, fun i hi => ?_, fun i hi => ?_, fun a ha => ?_, fun a b ha hb => ?_, h5, h6, h7, fun i hi => ?_, fun i hi => ?_⟩
    · have := hh i (by omega); rw [if_pos (by omega)] at this; omega
    · have := hf i (by omega); rw [if_pos (by omega)] at this; omega
    · have := hd a a (by omega) (by omega); rw [if_neg (by omega)] at this; exact this
    · have := hd a b (by omega) (by omega); rw [if_pos ⟨by omega, by omega, by omega⟩] at this; omega
    · have := hf i (by omega); rw [if_pos (by omega)] at this; omega
    · rw [bareG_at g c n hc hn]
      by_cases a1 : i < 2
      · rw [if_pos a1]
      · rw [if_neg a1]
        by_cases a2 : i < 18
        · rw [if_pos a2]
          by_cases a3 : i < 2 + c
          · rw [if_pos a3]
          · have := hh (i - 2) (by omega)
            rw [if_neg (by omega), show 2 + (i - 2) = i by omega] at this
            rw [if_neg a3, this]
        · rw [if_neg a2]
          by_cases a3 : i < 26
          · rw [if_pos a3]
            by_cases a4 : i < 18 + n
            · rw [if_pos a4]
            · have := hf (i - 18) (by omega)
              rw [if_neg (by omega), show 18 + (i - 18) = i by omega] at this
              rw [if_neg a4, this]
          · rw [if_neg a3]
            by_cases a4 : i < 90
            · rw [if_pos a4]
              by_cases a5 : (i - 26) / 8 < n ∧ (i - 26) % 8 < n
              · rw [if_pos a5]
              · have := hd ((i - 26) / 8) ((i - 26) % 8) (by omega) (by omega)
                rw [if_neg (by omega), show 26 + (i - 26) / 8 * 8 + (i - 26) % 8 = i by omega] at this
                rw [if_neg a5, this]
            · rw [if_neg a4]
  · intro G
    have n1 := G.n1
    have n2 := G.n2
    have c1 := G.c1
    have c2 := G.c2
    obtain ⟨n, hn⟩ := Int.eq_ofNat_of_zero_le (show 0 ≤ g 0 by omega)
    obtain ⟨c, hc⟩ := Int.eq_ofNat_of_zero_le (show 0 ≤ g 1 by omega)
    have hb := fun i hi => (G.behind i hi).trans (bareG_at g c n hc hn i)
    simp only [mayR, headR, tailR, Bool.and_eq_true, decide_eq_true_eq]
    refine ⟨⟨decide_eq_true ⟨G.n1, G.n2⟩, decide_eq_true ⟨G.c1, G.c2⟩, decide_eq_true ⟨G.s1, G.s2⟩⟩, allR_true (fun i hi => ?_), allR_true (fun i hi => ?_), G.min0, G.low, G.high⟩
    · unfold homeR
      by_cases a : (i : Int) < g 1
      · have := G.home i a
        rw [if_pos a]; simp; omega
      · have := hb (2 + i) (by omega)
        rw [if_neg (by omega), if_pos (by omega), if_neg (by omega)] at this
        rw [if_neg a, this]; rfl
    · simp only [rowR, Bool.and_eq_true]
      refine ⟨?_, allR_true (fun k hk => ?_)⟩
      · unfold frameR
        by_cases a : (i : Int) < g 0
        · have h1 := G.frames i a
          have h2 := G.least i a
          rw [if_pos a]; simp; omega
        · have := hb (18 + i) (by omega)
          rw [if_neg (by omega), if_neg (by omega), if_pos (by omega), if_neg (by omega)] at this
          rw [if_neg a, this]; rfl
      · unfold cellR
        by_cases a : (i : Int) < g 0 ∧ (k : Int) < g 0 ∧ i ≠ k
        · rw [if_pos a]
          by_cases h : k < i
          · obtain ⟨d1, d2, d3⟩ := G.dist i k a.1 h
            simp; omega
          · obtain ⟨d1, d2, d3⟩ := G.dist k i a.2.1 (by omega)
            simp; omega
        · rw [if_neg a]
          by_cases h1 : (i : Int) < g 0 ∧ (k : Int) < g 0
          · obtain rfl : i = k := by omega
            simpa using G.self i h1.1
          · have := hb (26 + i * 8 + k) (by omega)
            rw [if_neg (by omega), if_neg (by omega), if_neg (by omega), if_pos (by omega), if_neg (by omega)] at this
            rw [this]; rfl
theorem mayR_eq (g : Nat → Int) : mayR g = mayB g := by
  rw [Bool.eq_iff_iff, mayR_good, good_iff]
end
/-! The document's own answer: the walk of its May. -/
section
open Go.RowKit Go

set_option maxHeartbeats 1000000 in
set_option maxRecDepth 100000 in
theorem refmay_head (A : Array Value) (g : Nat → Int) (w : World) (hA : Cfg A g) (h : headR g = false) :
    Calls Tryd.prog 48 #[.agg A] w fun e w' => e = .returned (.bool false) ∧ Below w.heap.size w w' := by
  have a0 : A[0]? = some (.int .i64 (g 0)) := hA.get 0 (by decide)
  have a1 : A[1]? = some (.int .i64 (g 1)) := hA.get 1 (by decide)
  have a90 : A[90]? = some (.int .i64 (g 90)) := hA.get 90 (by decide)
  have hc : g 0 < 1 ∨ (1 ≤ g 0 ∧ 8 < g 0) ∨ (1 ≤ g 0 ∧ g 0 ≤ 8 ∧ g 1 < 1) ∨ (1 ≤ g 0 ∧ g 0 ≤ 8 ∧ 1 ≤ g 1 ∧ 16 < g 1) ∨ (1 ≤ g 0 ∧ g 0 ≤ 8 ∧ 1 ≤ g 1 ∧ g 1 ≤ 16 ∧ g 90 < 0) ∨ (1 ≤ g 0 ∧ g 0 ≤ 8 ∧ 1 ≤ g 1 ∧ g 1 ≤ 16 ∧ 0 ≤ g 90 ∧ 1024 < g 90) := by
    simp only [headR, withinB, Bool.and_eq_false_iff, decide_eq_false_iff_not] at h
    omega
  generalize g 0 = x at a0 hc
  generalize g 1 = y at a1 hc
  generalize g 90 = z at a90 hc
  clear h hA
  rcases hc with h1 | ⟨h1, h2⟩ | ⟨h1, h2, h3⟩ | ⟨h1, h2, h3, h4⟩ | ⟨h1, h2, h3, h4, h5⟩ | ⟨h1, h2, h3, h4, h5, h6⟩
  all_goals
    go_enter Tryd.func48, Tryd.ntmps48
    go_wp2_with (fail)
    go_ret
    exact ⟨rfl, (Below.refl _ _).alloc (Nat.le_refl _) _⟩
end
/-! The document's own answer: the walk of its May, behind its first test. -/
section
open Go.RowKit Go

set_option maxHeartbeats 8000000 in
set_option maxRecDepth 100000 in
theorem refmay_body (A : Array Value) (g : Nat → Int) (w : World) (hA : Cfg A g) (h : headR g = true) :
    Calls Tryd.prog 48 #[.agg A] w fun e w' => e = .returned (.bool (mayR g)) ∧ Below w.heap.size w w' := by
  have HM := Lib.hid (show mayR g = (allR 16 (homeR g) && (allR 8 (rowR g) && tailR g)) by unfold mayR; rw [h, Bool.true_and])
  have hh := h
  simp only [headR, Bool.and_eq_true] at hh
  obtain ⟨e0, e1, e2⟩ := hh
  have e0 := of_withinB e0
  have e1 := of_withinB e1
  have e2 := of_withinB e2
  obtain ⟨n, hn⟩ := Int.eq_ofNat_of_zero_le (show 0 ≤ g 0 by omega)
  obtain ⟨c, hc⟩ := Int.eq_ofNat_of_zero_le (show 0 ≤ g 1 by omega)
  have a0 : A[0]? = some (.int .i64 n) := by rw [← hn]; exact hA.get 0 (by decide)
  have a1 : A[1]? = some (.int .i64 c) := by rw [← hc]; exact hA.get 1 (by decide)
  have a90 : A[90]? = some (.int .i64 (g 90)) := hA.get 90 (by decide)
  have hn1 : 1 ≤ n := by omega
  have hn8 : n ≤ 8 := by omega
  have hc1 : 1 ≤ c := by omega
  have hc16 : c ≤ 16 := by omega
  obtain ⟨s1, s2⟩ := e2
  have HN := Lib.hid hn
  have HC := Lib.hid hc
  have HA := Lib.hid hA
  clear hA h e0 e1 hn hc
  generalize g 90 = z at a90 s1 s2
  go_enter Tryd.func48, Tryd.ntmps48
  go_wp2_with (fail)
  clear a90 s1 s2
  go_loopw [3] (fun x wr => ∃ k : Nat, k ≤ 16 ∧ x = .int .i64 k ∧ Hid (∀ i, i < k → homeR g i = true) ∧ ∃ m, wr = (w.alloc (.cells A 50)).drewN m) (fun x _ => 16 - (intOf x).toNat)
  case atStart => exact ⟨0, Nat.zero_le _, rfl, Lib.hid (fun i h => absurd h (Nat.not_lt_zero _)), 0, rfl⟩
  case round =>
    obtain ⟨k, hk, rfl, HK, m, rfl⟩ := hrel
    by_cases hlt : k < 16
    · have ah : A[2 + k]? = some (.int .i64 (g (2 + k))) := HA.out.get _ (by omega)
      have HL := Lib.hid (show homeR g k = false → mayR g = false from fun h => by rw [HM.out, allR_false k hlt h]; rfl)
      have HR := Lib.hid (show homeR g k = if (k : Int) < c then decide (0 ≤ g (2 + k)) && decide (g (2 + k) < n) else g (2 + k) == 0 by unfold homeR; rw [HN.out, HC.out])
      generalize g (2 + k) = x at ah HR
      have ik : (k : Int) < 16 := by omega
      by_cases h1 : (k : Int) < c
      · have d1 : decide (c ≤ k) = false := by simp; omega
        by_cases h2 : x < 0
        · have HF := Lib.hid (HL.out (by rw [HR.out, if_pos h1]; simp; omega))
          go_wp2_with (fail)
          go_quiet (fail)
          go_wp2_with (fail)
          go_ret
          exact ⟨by rw [HF.out]; rfl, below_drewN (below_drewN ((Below.refl _ _).alloc (Nat.le_refl _) _) _) _⟩
        · have d2 : decide (x < 0) = false := by simpa using h2
          by_cases h3 : (n : Int) ≤ x
          · have HF := Lib.hid (HL.out (by rw [HR.out, if_pos h1]; simp; omega))
            clear h2
            go_wp2_with (fail)
            go_quiet (fail)
            go_wp2_with (fail)
            go_ret
            exact ⟨by rw [HF.out]; rfl, below_drewN (below_drewN ((Below.refl _ _).alloc (Nat.le_refl _) _) _) _⟩
          · have d3 : decide ((n : Int) ≤ x) = false := by simpa using h3
            have HT := Lib.hid (show homeR g k = true by rw [HR.out, if_pos h1]; simp; omega)
            clear h2 h3
            go_wp2_with (fail)
            go_quiet (fail)
            go_wp2_with (fail)
            go_roundw
            case rel => exact ⟨k + 1, hlt, by go_num, Lib.hid (fun i h => by
              by_cases e : i = k
              · subst e; exact HT.out
              · exact HK.out i (by omega)), _, rfl⟩
            case measure => simp [intOf]; omega
      · have d1 : decide (k < c) = false := by simp; omega
        have h1' : c ≤ k := by omega
        by_cases h2 : x = 0
        · subst h2
          have HT := Lib.hid (show homeR g k = true by rw [HR.out, if_neg h1]; rfl)
          clear h1
          go_wp2_with (fail)
          go_quiet (fail)
          go_wp2_with (fail)
          go_roundw
          case rel => exact ⟨k + 1, hlt, by go_num, Lib.hid (fun i h => by
            by_cases e : i = k
            · subst e; exact HT.out
            · exact HK.out i (by omega)), _, rfl⟩
          case measure => simp [intOf]; omega
        · have d2 : (x != 0) = true := by simpa using h2
          have HF := Lib.hid (HL.out (by rw [HR.out, if_neg h1]; simpa using h2))
          clear h1 h2
          go_wp2_with (fail)
          go_quiet (fail)
          go_wp2_with (fail)
          go_ret
          exact ⟨by rw [HF.out]; rfl, below_drewN (below_drewN ((Below.refl _ _).alloc (Nat.le_refl _) _) _) _⟩
    · have HM2 := Lib.hid (show mayR g = (allR 8 (rowR g) && tailR g) by rw [HM.out, allR_true (fun i h => HK.out i (by omega)), Bool.true_and])
      go_wp2_with (fail)
      clear a1
      have a93 : A[93]? = some (.int .i64 (g 93)) := HA.out.get 93 (by decide)
      have HH := Lib.hid (show ∀ i, frameR g i = if (i : Int) < g 0 then decide (4 ≤ g (18 + i)) && (decide (g (18 + i) ≤ 128) && decide (g 93 ≤ g (18 + i))) else g (18 + i) == 0 from fun _ => rfl)
      go_loopw [4, 5, 6, 7] (fun x _ _ _ wr => ∃ i : Nat, i ≤ 8 ∧ x = .int .i64 i ∧ Hid (∀ l, l < i → rowR g l = true) ∧ ∃ m, wr = (w.alloc (.cells A 50)).drewN m) (fun x _ _ _ _ => 8 - (intOf x).toNat)
      case atStart => exact ⟨0, Nat.zero_le _, rfl, Lib.hid (fun i h => absurd h (Nat.not_lt_zero _)), m, rfl⟩
      case round =>
        clear HK hlt hk
        obtain ⟨i, hi, rfl, HK, m1, rfl⟩ := hrel
        by_cases hlt : i < 8
        · have af : A[18 + i]? = some (.int .i64 (g (18 + i))) := HA.out.get _ (by omega)
          have HL := Lib.hid (show rowR g i = false → mayR g = false from fun h => by rw [HM2.out, allR_false i hlt h]; rfl)
          have ii : (i : Int) < 8 := by omega
          have HF1 := Lib.hid (HH.out i)
          generalize g (18 + i) = f at af HF1
          obtain ⟨hgh, hhg⟩ : ∃ x, x = g 93 := ⟨_, rfl⟩
          rw [← hhg] at a93 HF1
          have HG := Lib.hid hhg
          clear hhg
          by_cases hin : i < n
          · have HF2 := Lib.hid (show frameR g i = (decide (4 ≤ f) && (decide (f ≤ 128) && decide (hgh ≤ f))) by rw [HF1.out, if_pos (by rw [HN.out]; omega)])
            by_cases q1 : f < 4
            · have HF := Lib.hid (HL.out (by unfold rowR; rw [HF2.out]; simp; omega))
              go_wp2_with (fail)
              go_quiet (fail)
              go_wp2_with (fail)
              go_ret
              exact ⟨by rw [HF.out]; rfl, below_drewN (below_drewN ((Below.refl _ _).alloc (Nat.le_refl _) _) _) _⟩
            · have q1' : decide (f < 4) = false := by simpa using q1
              by_cases q2 : 128 < f
              · have HF := Lib.hid (HL.out (by unfold rowR; rw [HF2.out]; simp; omega))
                clear q1
                go_wp2_with (fail)
                go_quiet (fail)
                go_wp2_with (fail)
                go_ret
                exact ⟨by rw [HF.out]; rfl, below_drewN (below_drewN ((Below.refl _ _).alloc (Nat.le_refl _) _) _) _⟩
              · have q2' : decide (128 < f) = false := by simpa using q2
                by_cases q3 : f < hgh
                · have HF := Lib.hid (HL.out (by unfold rowR; rw [HF2.out]; simp; omega))
                  clear q1 q2
                  go_wp2_with (fail)
                  go_quiet (fail)
                  go_wp2_with (fail)
                  go_ret
                  exact ⟨by rw [HF.out]; rfl, below_drewN (below_drewN ((Below.refl _ _).alloc (Nat.le_refl _) _) _) _⟩
                · have q3' : decide (f < hgh) = false := by simpa using q3
                  have HFR := Lib.hid (show frameR g i = true by rw [HF2.out]; simp; omega)
                  clear q1 q2 q3
                  go_wp2_with (fail)
                  go_quiet (fail)
                  clear q1' q2' q3'
                  go_wp2_with (fail)
                  clear af
                  go_loopw [6, 7] (fun x _ wr => ∃ j : Nat, j ≤ 8 ∧ x = .int .i64 j ∧ Hid (∀ l, l < j → cellR g i l = true) ∧ ∃ m, wr = (w.alloc (.cells A 50)).drewN m) (fun x _ _ => 8 - (intOf x).toNat)
                  case atStart => exact ⟨0, Nat.zero_le _, rfl, Lib.hid (fun i h => absurd h (Nat.not_lt_zero _)), _, World.drewN_drewN _ _ _⟩
                  case round =>
                    obtain ⟨j, hj, rfl, HJ, m2, rfl⟩ := hrel
                    by_cases hlj : j < 8
                    · have ad : A[26 + i * 8 + j]? = some (.int .i64 (g (26 + i * 8 + j))) := HA.out.get _ (by omega)
                      have ae : A[26 + j * 8 + i]? = some (.int .i64 (g (26 + j * 8 + i))) := HA.out.get _ (by omega)
                      have HLJ := Lib.hid (show cellR g i j = false → mayR g = false from fun h => HL.out (by unfold rowR; rw [allR_false j hlj h, Bool.and_false]))
                      have HCJ := Lib.hid (show cellR g i j = if i < n ∧ j < n ∧ i ≠ j then decide (1 ≤ g (26 + i * 8 + j)) && (decide (g (26 + i * 8 + j) ≤ 255) && g (26 + i * 8 + j) == g (26 + j * 8 + i)) else g (26 + i * 8 + j) == 0 by
                        unfold cellR; rw [HN.out]; by_cases q : i < n ∧ j < n ∧ i ≠ j
                        · rw [if_pos q, if_pos ⟨by omega, by omega, q.2.2⟩]
                        · rw [if_neg q, if_neg (by omega)])
                      generalize g (26 + i * 8 + j) = d at ad HCJ
                      generalize g (26 + j * 8 + i) = e at ae HCJ
                      have ij : (j : Int) < 8 := by omega
                      by_cases hjn : j < n
                      · have g1 : decide (n ≤ j) = false := by simp; omega
                        by_cases hij : j = i
                        · subst hij
                          clear ae
                          have HCZ := Lib.hid (show cellR g j j = (d == 0) by rw [HCJ.out, if_neg (by omega)])
                          by_cases hd : d = 0
                          · subst hd
                            have HT := Lib.hid (show cellR g j j = true by rw [HCZ.out]; rfl)
                            skip
                            go_wp2_with (fail)
                            go_roundw
                            case rel => exact ⟨j + 1, hlj, by go_num, Lib.hid (fun l h => by
                              by_cases e : l = j
                              · subst e; exact HT.out
                              · exact HJ.out l (by omega)), _, rfl⟩
                            case measure => simp [intOf]; omega
                          · have d9 : (d != 0) = true := by simpa using hd
                            have HF := Lib.hid (HLJ.out (by rw [HCZ.out]; simpa using hd))
                            clear hd
                            skip
                            go_wp2_with (fail)
                            go_ret
                            exact ⟨by rw [HF.out]; rfl, below_drewN ((Below.refl _ _).alloc (Nat.le_refl _) _) _⟩
                        · have hij : ¬ i = j := fun h => hij h.symm
                          have g2 : (i == j) = false := by simpa using hij
                          have g3 : ((i : Int) == (j : Int)) = false := by simp; omega
                          have g4 : (i != j) = true := by simpa using hij
                          have g5 : ((i : Int) != (j : Int)) = true := by simp; omega
                          have HCK := Lib.hid (show cellR g i j = (decide (1 ≤ d) && (decide (d ≤ 255) && d == e)) by rw [HCJ.out, if_pos ⟨hin, hjn, hij⟩])
                          clear hij
                          by_cases q1 : d < 1
                          · have HF := Lib.hid (HLJ.out (by rw [HCK.out]; simp; omega))
                            go_wp2_with (fail)
                            go_ret
                            exact ⟨by rw [HF.out]; rfl, below_drewN ((Below.refl _ _).alloc (Nat.le_refl _) _) _⟩
                          · have q1' : decide (d < 1) = false := by simpa using q1
                            clear q1
                            by_cases q2 : 255 < d
                            · have HF := Lib.hid (HLJ.out (by rw [HCK.out]; simp; omega))
                              go_wp2_with (fail)
                              go_ret
                              exact ⟨by rw [HF.out]; rfl, below_drewN ((Below.refl _ _).alloc (Nat.le_refl _) _) _⟩
                            · have q2' : decide (255 < d) = false := by simpa using q2
                              clear q2
                              by_cases q3 : d = e
                              · subst q3
                                have HT := Lib.hid (show cellR g i j = true by rw [HCK.out]; simp at q1' q2' ⊢; omega)
                                have q3' : (d != d) = false := by simp
                                go_wp2_with (fail)
                                go_roundw
                                case rel => exact ⟨j + 1, hlj, by go_num, Lib.hid (fun l h => by
                                  by_cases e : l = j
                                  · subst e; exact HT.out
                                  · exact HJ.out l (by omega)), _, rfl⟩
                                case measure => simp [intOf]; omega
                              · have q3' : (d != e) = true := by simpa using q3
                                have HF := Lib.hid (HLJ.out (by rw [HCK.out]; simp; intro _ _; exact q3))
                                clear q3
                                go_wp2_with (fail)
                                go_ret
                                exact ⟨by rw [HF.out]; rfl, below_drewN ((Below.refl _ _).alloc (Nat.le_refl _) _) _⟩
                      · have g1 : n ≤ j := by omega
                        have g2 : decide (j < n) = false := by simp; omega
                        by_cases hd : d = 0
                        · subst hd
                          have HT := Lib.hid (show cellR g i j = true by rw [HCJ.out, if_neg (by omega)]; rfl)
                          skip
                          go_wp2_with (fail)
                          go_roundw
                          case rel => exact ⟨j + 1, hlj, by go_num, Lib.hid (fun l h => by
                            by_cases e : l = j
                            · subst e; exact HT.out
                            · exact HJ.out l (by omega)), _, rfl⟩
                          case measure => simp [intOf]; omega
                        · have d9 : (d != 0) = true := by simpa using hd
                          have HF := Lib.hid (HLJ.out (by rw [HCJ.out, if_neg (by omega)]; simpa using hd))
                          clear hd
                          skip
                          go_wp2_with (fail)
                          go_ret
                          exact ⟨by rw [HF.out]; rfl, below_drewN ((Below.refl _ _).alloc (Nat.le_refl _) _) _⟩
                    · have HT := Lib.hid (show rowR g i = true by unfold rowR; rw [HFR.out, allR_true (fun l h => HJ.out l (by omega))]; rfl)
                      go_wp2_with (fail)
                      go_roundw
                      case rel => exact ⟨i + 1, hlt, by go_num, Lib.hid (fun l h => by
                        by_cases e : l = i
                        · subst e; exact HT.out
                        · exact HK.out l (by omega)), _, rfl⟩
                      case measure => simp [intOf]; omega
          · have hin' : decide (i < n) = false := by simp; omega
            have HF2 := Lib.hid (show frameR g i = (f == 0) by rw [HF1.out, if_neg (by rw [HN.out]; omega)])
            by_cases q1 : f = 0
            · subst q1
              have HFR := Lib.hid (show frameR g i = true by rw [HF2.out]; rfl)
              go_wp2_with (fail)
              go_quiet (fail)
              go_wp2_with (fail)
              clear af
              go_loopw [6, 7] (fun x _ wr => ∃ j : Nat, j ≤ 8 ∧ x = .int .i64 j ∧ Hid (∀ l, l < j → cellR g i l = true) ∧ ∃ m, wr = (w.alloc (.cells A 50)).drewN m) (fun x _ _ => 8 - (intOf x).toNat)
              case atStart => exact ⟨0, Nat.zero_le _, rfl, Lib.hid (fun i h => absurd h (Nat.not_lt_zero _)), _, World.drewN_drewN _ _ _⟩
              case round =>
                obtain ⟨j, hj, rfl, HJ, m2, rfl⟩ := hrel
                by_cases hlj : j < 8
                · have ad : A[26 + i * 8 + j]? = some (.int .i64 (g (26 + i * 8 + j))) := HA.out.get _ (by omega)
                  have ae : A[26 + j * 8 + i]? = some (.int .i64 (g (26 + j * 8 + i))) := HA.out.get _ (by omega)
                  have HLJ := Lib.hid (show cellR g i j = false → mayR g = false from fun h => HL.out (by unfold rowR; rw [allR_false j hlj h, Bool.and_false]))
                  have HCJ := Lib.hid (show cellR g i j = if i < n ∧ j < n ∧ i ≠ j then decide (1 ≤ g (26 + i * 8 + j)) && (decide (g (26 + i * 8 + j) ≤ 255) && g (26 + i * 8 + j) == g (26 + j * 8 + i)) else g (26 + i * 8 + j) == 0 by
                    unfold cellR; rw [HN.out]; by_cases q : i < n ∧ j < n ∧ i ≠ j
                    · rw [if_pos q, if_pos ⟨by omega, by omega, q.2.2⟩]
                    · rw [if_neg q, if_neg (by omega)])
                  generalize g (26 + i * 8 + j) = d at ad HCJ
                  generalize g (26 + j * 8 + i) = e at ae HCJ
                  have ij : (j : Int) < 8 := by omega
                  by_cases hd : d = 0
                  · subst hd
                    have HT := Lib.hid (show cellR g i j = true by rw [HCJ.out, if_neg (by omega)]; rfl)
                    skip
                    go_wp2_with (fail)
                    go_roundw
                    case rel => exact ⟨j + 1, hlj, by go_num, Lib.hid (fun l h => by
                      by_cases e : l = j
                      · subst e; exact HT.out
                      · exact HJ.out l (by omega)), _, rfl⟩
                    case measure => simp [intOf]; omega
                  · have d9 : (d != 0) = true := by simpa using hd
                    have HF := Lib.hid (HLJ.out (by rw [HCJ.out, if_neg (by omega)]; simpa using hd))
                    clear hd
                    skip
                    go_wp2_with (fail)
                    go_ret
                    exact ⟨by rw [HF.out]; rfl, below_drewN ((Below.refl _ _).alloc (Nat.le_refl _) _) _⟩
                · have HT := Lib.hid (show rowR g i = true by unfold rowR; rw [HFR.out, allR_true (fun l h => HJ.out l (by omega))]; rfl)
                  go_wp2_with (fail)
                  go_roundw
                  case rel => exact ⟨i + 1, hlt, by go_num, Lib.hid (fun l h => by
                    by_cases e : l = i
                    · subst e; exact HT.out
                    · exact HK.out l (by omega)), _, rfl⟩
                  case measure => simp [intOf]; omega
            · have q1' : (f != 0) = true := by simpa using q1
              have HF := Lib.hid (HL.out (by unfold rowR; rw [HF2.out]; simp; intro h; exact absurd h q1))
              clear q1
              go_wp2_with (fail)
              go_quiet (fail)
              go_wp2_with (fail)
              go_ret
              exact ⟨by rw [HF.out]; rfl, below_drewN (below_drewN ((Below.refl _ _).alloc (Nat.le_refl _) _) _) _⟩
        · have HM3 := Lib.hid (show mayR g = tailR g by rw [HM2.out, allR_true (fun l h => HK.out l (by omega)), Bool.true_and])
          have a91 : A[91]? = some (.int .i64 (g 91)) := HA.out.get 91 (by decide)
          have a92 : A[92]? = some (.int .i64 (g 92)) := HA.out.get 92 (by decide)
          have HT := Lib.hid (show tailR g = (decide (0 ≤ g 91) && (decide (g 91 ≤ g 92) && decide (g 92 ≤ g 93))) from rfl)
          generalize g 91 = x at a91 HT
          generalize g 92 = y at a92 HT
          generalize g 93 = v at a93 HT
          have hcs : x < 0 ∨ (0 ≤ x ∧ y < x) ∨ (0 ≤ x ∧ x ≤ y ∧ v < y) ∨ (0 ≤ x ∧ x ≤ y ∧ y ≤ v) := by omega
          rcases hcs with h1 | ⟨h1, h2⟩ | ⟨h1, h2, h3⟩ | ⟨h1, h2, h3⟩
          · have HF := Lib.hid (show mayR g = false by rw [HM3.out, HT.out]; simp; omega)
            go_wp2_with (fail)
            go_ret
            exact ⟨by rw [HF.out]; rfl, below_drewN ((Below.refl _ _).alloc (Nat.le_refl _) _) _⟩
          · have HF := Lib.hid (show mayR g = false by rw [HM3.out, HT.out]; simp; omega)
            go_wp2_with (fail)
            go_ret
            exact ⟨by rw [HF.out]; rfl, below_drewN ((Below.refl _ _).alloc (Nat.le_refl _) _) _⟩
          · have HF := Lib.hid (show mayR g = false by rw [HM3.out, HT.out]; simp; omega)
            go_wp2_with (fail)
            go_ret
            exact ⟨by rw [HF.out]; show Ending.returned (Value.bool (decide (y ≤ v))) = _; rw [decide_eq_false (by omega)], below_drewN ((Below.refl _ _).alloc (Nat.le_refl _) _) _⟩
          · have HF := Lib.hid (show mayR g = true by rw [HM3.out, HT.out]; simp; omega)
            go_wp2_with (fail)
            go_ret
            exact ⟨by rw [HF.out]; rfl, below_drewN ((Below.refl _ _).alloc (Nat.le_refl _) _) _⟩

set_option maxRecDepth 100000 in
theorem refmay_any (A : Array Value) (g : Nat → Int) (w : World) (hA : Cfg A g) :
    Calls Tryd.prog 48 #[.agg A] w fun e w' => e = .returned (.bool (mayB g)) ∧ Below w.heap.size w w' := by
  rw [← mayR_eq]
  cases h : headR g with
  | false =>
    have : mayR g = false := by unfold mayR; rw [h, Bool.false_and]
    rw [this]
    exact refmay_head A g w hA h
  | true => exact refmay_body A g w hA h
end
/-! policy, the document's: May. -/
section
open Go.RowKit Go
attribute [local go_sem] Oper.semAt_some

theorem rhas_nat (m : Nat) (hm : m ≤ 255) (i : Nat) (hi : i < 8) (w : World) : Calls Tryd.prog 64 #[.int .u8 (m : Int), .int .i64 (i : Int)] w fun e w' => e = .returned (.bool (hasM m i)) ∧ w = w' := by
  have h := rhas_any m hm (i : Int) w
  rw [decide_eq_true (show (0 : Int) ≤ (i : Int) by omega), decide_eq_true (show (i : Int) ≤ 7 by omega), Bool.true_and, Bool.true_and, Int.toNat_natCast] at h
  exact h
/-- As far as i: how many bits; all of nodes. -/
def bitsU (g : Nat → Int) (m i b : Nat) : Prop := (inN m i).length = b ∧ ∀ x ∈ inN m i, (x : Int) < g 0
set_option maxRecDepth 100000 in
set_option maxHeartbeats 8000000 in
theorem rmayP_any (A : Array Value) (g : Nat → Int) (k m : Nat) (hk : k ≤ 255) (hm : m ≤ 255) (w : World) (hA : Cfg A g) :
    Calls Tryd.prog 50 #[.agg A, polV k m] w fun e w' => e = .returned (.bool (mayP g k m)) ∧ Below w.heap.size w w' := by
  have HC0 := Lib.hid (cpb_new w hA k m)
  have HA := Lib.hid hA
  cases hmb : mayB g with
  | false =>
    have HMB := Lib.hid hmb
    have HF := Lib.hid (show mayP g k m = false from by unfold mayP; rw [hmb]; rfl)
    clear hA hmb
    have C0 := HC0.out.cfg
    go_enter Tryd.func50, Tryd.ntmps50
    go_wp2_with (refine wpList_load_cfg rfl _ rfl _ rfl C0 ?_)
    refine (refmay_any A g _ HA.out).mono ?_
    rintro e w1 ⟨rfl, hb⟩
    rw [HMB.out]
    have HB1 := Lib.hid (HC0.out.later hb).bel
    clear hb C0
    go_wp2_with (fail)
    go_ret
    rw [HF.out]
    exact ⟨rfl, HB1.out⟩
  | true =>
    have HMB := Lib.hid hmb
    clear hA hmb
    have C0 := HC0.out.cfg
    go_enter Tryd.func50, Tryd.ntmps50
    go_wp2_with (refine wpList_load_cfg rfl _ rfl _ rfl C0 ?_)
    refine (refmay_any A g _ HA.out).mono ?_
    rintro e w1 ⟨rfl, hb⟩
    rw [HMB.out]
    have HC1 := Lib.hid (HC0.out.later hb)
    clear hb C0 HC0
    generalize hpb : w.heap.size + 1 = pb at *
    go_wp2_with (fail)
    go_loopw [5, 6] (fun bv iv wr => ∃ i b : Nat, iv = .int .i64 i ∧ i ≤ 8 ∧ bv = .int .i64 b ∧ b ≤ i ∧ Hid (bitsU g m i b) ∧ Hid (CpB w A g k m wr)) (fun _ iv _ => 8 - (intOf iv).toNat)
    case atStart => exact ⟨0, 0, rfl, by decide, rfl, Nat.le_refl _, Lib.hid ⟨rfl, fun x h => absurd h List.not_mem_nil⟩, HC1⟩
    case round =>
      clear HC1
      obtain ⟨i, b, rfl, hi, rfl, hbi, HU, HC⟩ := hrel
      have c0 := HC.out.cfg.cell 0 (by decide)
      have p0 := HC.out.k0
      have p1 := HC.out.k1
      rw [hpb] at p0 p1
      by_cases hlt : i < 8
      · have hltI : (i : Int) < 8 := by omega
        have HH := Lib.hid (rhas_nat m hm i hlt wr)
        cases hh : hasM m i with
        | false =>
          have HU2 := Lib.hid (show bitsU g m (i + 1) b from by
            have h2 := HU.out
            unfold bitsU at h2 ⊢
            rw [inN_succ, hh]
            exact h2)
          rw [hh] at HH
          clear hh
          go_wp2_with (fail)
          refine HH.out.mono ?_
          rintro e w2 ⟨rfl, rfl⟩
          clear c0 p0 p1
          go_wp2_with (fail)
          go_roundw
          case rel => exact ⟨i + 1, b, by go_num, hlt, rfl, by omega, HU2, HC⟩
          case measure => simp [intOf]; omega
        | true =>
          rw [hh] at HH
          by_cases hg : (i : Int) < g 0
          · have HU2 := Lib.hid (show bitsU g m (i + 1) (b + 1) from by
              obtain ⟨h2, h3⟩ := HU.out
              unfold bitsU
              rw [inN_succ, if_pos hh]
              exact ⟨by rw [List.length_append, h2]; rfl, fun x hx => by
                rcases List.mem_append.1 hx with h | h
                · exact h3 x h
                · rw [List.mem_singleton] at h
                  rw [h]
                  exact hg⟩)
            clear hh
            go_wp2_with (fail)
            refine HH.out.mono ?_
            rintro e w2 ⟨rfl, rfl⟩
            clear p0 p1
            go_wp2_with (fail)
            go_roundw
            case rel => exact ⟨i + 1, b + 1, by go_num, hlt, by go_num, by omega, HU2, HC⟩
            case measure => simp [intOf]; omega
          · have HF := Lib.hid (show mayP g k m = false from by
              unfold mayP
              rw [HMB.out, Bool.true_and, show (inN m 8).all (fun i => decide ((i : Int) < g 0)) = false from ?_, Bool.false_and]
              rw [List.all_eq_false]
              exact ⟨i, mem_inN.2 ⟨hlt, hh⟩, by simpa using hg⟩)
            clear hh
            go_wp2_with (fail)
            refine HH.out.mono ?_
            rintro e w2 ⟨rfl, rfl⟩
            clear p0 p1
            go_wp2_with (fail)
            go_ret
            rw [HF.out]
            exact ⟨rfl, HC.out.bel⟩
      · obtain rfl : i = 8 := by omega
        have HF := Lib.hid (show mayP g k m = (if k = 0 then decide (b = 0) else if k = 1 then decide (b = 1) else if k = 2 ∨ k = 3 then decide (0 < b) else false) from by
          obtain ⟨h2, h3⟩ := HU.out
          unfold mayP kindB
          rw [HMB.out, Bool.true_and, show (inN m 8).all (fun i => decide ((i : Int) < g 0)) = true from List.all_eq_true.2 (fun x hx => decide_eq_true (h3 x hx)), Bool.true_and, h2])
        clear c0 p1 HU
        rcases (show k = 0 ∨ k = 1 ∨ k = 2 ∨ k = 3 ∨ 4 ≤ k by omega) with rfl | rfl | rfl | rfl | h4
        · have HG := Lib.hid (show ((b : Int) == 0) = decide (b = 0) from by rw [Bool.eq_iff_iff]; simp)
          have HF2 := Lib.hid (show mayP g 0 m = decide (b = 0) from HF.out.trans (by simp))
          clear HF
          go_wp2_with (fail)
          go_ret
          refine ⟨?_, HC.out.bel⟩
          rw [HF2.out, ← HG.out]
          first | rfl | simp [go_sem]
        · have HG := Lib.hid (show ((b : Int) == 1) = decide (b = 1) from by rw [Bool.eq_iff_iff]; simp; omega)
          have HF2 := Lib.hid (show mayP g 1 m = decide (b = 1) from HF.out.trans (by simp))
          clear HF
          go_wp2_with (fail)
          go_ret
          refine ⟨?_, HC.out.bel⟩
          rw [HF2.out, ← HG.out]
          first | rfl | simp [go_sem]
        · have HG := Lib.hid (show decide ((0 : Int) < (b : Int)) = decide (0 < b) from by rw [Bool.eq_iff_iff]; simp)
          have HF2 := Lib.hid (show mayP g 2 m = decide (0 < b) from HF.out.trans (by simp))
          clear HF
          go_wp2_with (fail)
          go_ret
          refine ⟨?_, HC.out.bel⟩
          rw [HF2.out, ← HG.out]
          first | rfl | simp [go_sem]
        · have HG := Lib.hid (show decide ((0 : Int) < (b : Int)) = decide (0 < b) from by rw [Bool.eq_iff_iff]; simp)
          have HF2 := Lib.hid (show mayP g 3 m = decide (0 < b) from HF.out.trans (by simp))
          clear HF
          go_wp2_with (fail)
          go_ret
          refine ⟨?_, HC.out.bel⟩
          rw [HF2.out, ← HG.out]
          first | rfl | simp [go_sem]
        · have HF2 := Lib.hid (show mayP g k m = false from HF.out.trans (by rw [if_neg (by omega), if_neg (by omega), if_neg (by omega)]))
          clear HF
          have q0 : ((k : Int) == 0) = false := by simp; omega
          have q1 : ((k : Int) == 1) = false := by simp; omega
          have q2 : ((k : Int) == 2) = false := by simp; omega
          have q3 : ((k : Int) == 3) = false := by simp; omega
          go_wp2_with (fail)
          go_ret
          refine ⟨?_, HC.out.bel⟩
          rw [HF2.out]
          rfl
end
end Go.Proofs.YtkmjkkeldbocdaaDoor
