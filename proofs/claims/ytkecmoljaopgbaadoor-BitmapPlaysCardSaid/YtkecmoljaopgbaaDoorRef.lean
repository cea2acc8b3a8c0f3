/-
  The document's own answer (byreref01), in memory: a slice of bools.
-/
import Derived.Test.YtkecmoljaopgbaaDoorOwn
import Derived.Test.YtkecmoljaopgbaaDoorOnes
namespace Go.Proofs.YtkecmoljaopgbaaDoor
open Go.RowKit Go Bm

theorem info4 : (Tryd.prog.info? 4).map (fun i => (i.zero, i.size, i.bytes)) = some (some (.bool false), 1, 1) := by kernel_rfl

structure RefAt (w : World) (rb n : Nat) (f : Nat → Bool) : Prop where
  cell : ∀ k, k < n → w.cell? ⟨rb, k, none⟩ = some (.bool (f k))
  free : ∀ k, k < n → w.frozen? ⟨rb, k, none⟩ = false
  max : n ≤ 65536

theorem RefAt.drewN {w : World} {rb n : Nat} {f : Nat → Bool} (R : RefAt w rb n f) (k : Nat) : RefAt (w.drewN k) rb n f := ⟨R.cell, R.free, R.max⟩
theorem RefAt.store {w : World} {rb n : Nat} {f : Nat → Bool} (R : RefAt w rb n f) (i : Nat) (b : Bool) : RefAt (w.setCell ⟨rb, i, none⟩ (.bool b)) rb n (upd f i b) := by
  refine ⟨fun k hk => ?_, fun k hk => ?_, R.max⟩
  · by_cases h : k = i
    · subst h
      rw [upd_self]
      exact World.cell?_setCell_same _ _ _ (R.cell _ hk)
    · rw [World.cell?_setCell_other _ _ _ _ (fun e => h (congrArg Addr.off e).symm), upd_other f b h]
      exact R.cell k hk
  · rw [World.frozen?_setCell]; exact R.free k hk

/-- What lies in a world still lies in a later one. -/
theorem SetAt.later {w w' : World} {p wb n : Nat} {f : Nat → Bool} (S : SetAt w p wb n f) (hb : Below w.heap.size w w') : SetAt w' p wb n f := by
  have hp := World.block_lt_of_cell? _ _ S.size
  refine ⟨by rw [hb.cell (p := ⟨p, 0, none⟩) hp]; exact S.size, by rw [hb.cell (p := ⟨p, 1, none⟩) hp]; exact S.words, fun k hk => ?_, fun k hk => ?_, S.out, S.ne, S.max⟩
  · rw [hb.cell (World.block_lt_of_cell? _ _ (S.word k hk))]; exact S.word k hk
  · rw [hb.frozen (World.block_lt_of_cell? _ _ (S.word k hk))]; exact S.free k hk
theorem RefAt.later {w w' : World} {rb n : Nat} {f : Nat → Bool} (R : RefAt w rb n f) (hb : Below w.heap.size w w') : RefAt w' rb n f :=
  ⟨fun k hk => by rw [hb.cell (World.block_lt_of_cell? _ _ (R.cell k hk))]; exact R.cell k hk, fun k hk => by rw [hb.frozen (World.block_lt_of_cell? _ _ (R.cell k hk))]; exact R.free k hk, R.max⟩

/-- The call's slice of bools. -/
def refV (rb n : Nat) : Value := .slice (some ⟨rb, 0, none⟩) n n

theorem made_bools (n k : Nat) (h : k < n) : (madeCells #[Value.bool false] n).toList[k]? = some (.bool false) := by
  simp [madeCells, h, Nat.mod_one]
def RefMade (w : World) (n : Nat) (e : Ending) (w' : World) : Prop := e = .returned (refV w.heap.size n) ∧ RefAt w' w.heap.size n noneF ∧ w.grownBy w' none ∧ w.heap.size < w'.heap.size
theorem made_ref (w w1 : World) (n : Nat) (hn : n ≤ 65536) (hown : w1.ownsRow w.heap.size 4 1 (.slice (some ⟨w.heap.size, 0, none⟩) n n) n (madeCells #[Value.bool false] n).toList) (hg : w.grownBy w1 none) :
    RefMade w n (.returned (.slice (some ⟨w.heap.size, 0, none⟩) n n)) w1 := by
  have hlt := (hown.lt w.heap.size rfl).2
  refine ⟨rfl, ⟨fun k hk => ?_, fun k hk => hown.frozenAt k, hn⟩, hg, hlt⟩
  rw [hown.cellAt k (by omega)]
  exact made_bools _ k hk

theorem refnew_in (n : Nat) (w : World) (h : n ≤ 65536) :
    Calls Tryd.prog 9 #[.int .i64 n] w (RefMade w n) := by
  obtain ⟨i0, hi, hz0, hz1, hz2⟩ := info_parts info4
  go_enter Tryd.func9, Tryd.ntmps9
  go_wp2_with (at_make; refine wpList_make_full _ rfl _ _ 27 rfl w.heap.size 4 i0 (.bool false) 1 Tryd.underlying27 hi hz0 hz1 .i64 .i64 _ _ n rfl rfl ?c1 ?c2 ?c3 ?c4 ?c5 ?_)
  case c1 => omega
  case c2 => omega
  case c3 => rw [hz2]; omega
  case c4 => unfold maxLen; omega
  case c5 => exact Nat.le_refl _
  intro w1 hown hg
  have HO := Lib.hid hown
  have HG := Lib.hid hg
  clear hown hg hi hz0 hz1 hz2
  go_wp2
  go_ret
  exact made_ref w w1 n h HO.out HG.out
theorem refnew_low (n : Int) (w : World) (h : n < 0) :
    Calls Tryd.prog 9 #[.int .i64 n] w (RefMade w 0) := by
  obtain ⟨i0, hi, hz0, hz1, hz2⟩ := info_parts info4
  go_enter Tryd.func9, Tryd.ntmps9
  go_wp2_with (at_make; refine wpList_make_full _ rfl _ _ 27 rfl w.heap.size 4 i0 (.bool false) 1 Tryd.underlying27 hi hz0 hz1 .i64 .i64 _ _ 0 rfl rfl ?c1 ?c2 ?c3 ?c4 ?c5 ?_)
  case c1 => omega
  case c2 => omega
  case c3 => rw [hz2]; omega
  case c4 => unfold maxLen; omega
  case c5 => exact Nat.le_refl _
  intro w1 hown hg
  have HO := Lib.hid hown
  have HG := Lib.hid hg
  clear hown hg hi hz0 hz1 hz2
  go_wp2
  go_ret
  exact made_ref w w1 0 (by decide) HO.out HG.out
theorem refnew_high (n : Int) (w : World) (h : 65536 < n) :
    Calls Tryd.prog 9 #[.int .i64 n] w (RefMade w 65536) := by
  obtain ⟨i0, hi, hz0, hz1, hz2⟩ := info_parts info4
  go_enter Tryd.func9, Tryd.ntmps9
  go_wp2_with (at_make; refine wpList_make_full _ rfl _ _ 27 rfl w.heap.size 4 i0 (.bool false) 1 Tryd.underlying27 hi hz0 hz1 .i64 .i64 _ _ 65536 rfl rfl ?c1 ?c2 ?c3 ?c4 ?c5 ?_)
  case c1 => omega
  case c2 => omega
  case c3 => rw [hz2]; omega
  case c4 => unfold maxLen; omega
  case c5 => exact Nat.le_refl _
  intro w1 hown hg
  have HO := Lib.hid hown
  have HG := Lib.hid hg
  clear hown hg hi hz0 hz1 hz2
  go_wp2
  go_ret
  exact made_ref w w1 65536 (by decide) HO.out HG.out
theorem refnew_any (n : Int) (w : World) : Calls Tryd.prog 9 #[.int .i64 n] w (RefMade w (clampN n)) := by
  unfold clampN
  by_cases h : n < 0
  · rw [if_pos h]; exact refnew_low n w h
  · rw [if_neg h]
    by_cases h1 : 65536 < n
    · rw [if_pos h1]; exact refnew_high n w h1
    · rw [if_neg h1]
      obtain ⟨a, rfl⟩ := Int.eq_ofNat_of_zero_le (show 0 ≤ n by omega)
      exact refnew_in a w (by omega)

theorem refput_no (rb n : Nat) (i : Int) (w : World) (h : i < 0 ∨ (n : Int) ≤ i) :
    Calls Tryd.prog 11 #[refV rb n, .int .i64 i] w fun e w' => e = .returned (.int .i64 2) ∧ w = w' := by
  unfold refV
  rcases h with h | h
  · go_enter Tryd.func11, Tryd.ntmps11
    go_wp2
    go_ret
    exact ⟨rfl, rfl⟩
  · by_cases h0 : i < 0
    all_goals
      go_enter Tryd.func11, Tryd.ntmps11
      go_wp2
      go_ret
      exact ⟨rfl, rfl⟩
theorem refput_twice (rb n : Nat) (f : Nat → Bool) (i : Nat) (w : World) (R : RefAt w rb n f) (hi : i < n) (hf : f i = true) :
    Calls Tryd.prog 11 #[refV rb n, .int .i64 i] w fun e w' => e = .returned (.int .i64 8) ∧ w = w' := by
  have h1 := R.cell i hi
  have hm := R.max
  rw [hf] at h1
  clear hf
  unfold refV
  go_enter Tryd.func11, Tryd.ntmps11
  go_wp2
  go_ret
  exact ⟨rfl, rfl⟩
theorem refput_yes (rb n : Nat) (f : Nat → Bool) (i : Nat) (w : World) (R : RefAt w rb n f) (hi : i < n) (hf : f i = false) :
    Calls Tryd.prog 11 #[refV rb n, .int .i64 i] w fun e w' => e = .returned (.int .i64 0) ∧ w' = w.setCell ⟨rb, i, none⟩ (.bool true) := by
  have h1 := R.cell i hi
  have h2 := R.free i hi
  have hm := R.max
  rw [hf] at h1
  clear hf
  unfold refV
  go_enter Tryd.func11, Tryd.ntmps11
  go_wp2
  go_ret
  exact ⟨rfl, rfl⟩
theorem reftake_no (rb n : Nat) (i : Int) (w : World) (h : i < 0 ∨ (n : Int) ≤ i) :
    Calls Tryd.prog 13 #[refV rb n, .int .i64 i] w fun e w' => e = .returned (.int .i64 2) ∧ w = w' := by
  unfold refV
  rcases h with h | h
  · go_enter Tryd.func13, Tryd.ntmps13
    go_wp2
    go_ret
    exact ⟨rfl, rfl⟩
  · by_cases h0 : i < 0
    all_goals
      go_enter Tryd.func13, Tryd.ntmps13
      go_wp2
      go_ret
      exact ⟨rfl, rfl⟩
theorem reftake_none (rb n : Nat) (f : Nat → Bool) (i : Nat) (w : World) (R : RefAt w rb n f) (hi : i < n) (hf : f i = false) :
    Calls Tryd.prog 13 #[refV rb n, .int .i64 i] w fun e w' => e = .returned (.int .i64 7) ∧ w = w' := by
  have h1 := R.cell i hi
  have hm := R.max
  rw [hf] at h1
  clear hf
  unfold refV
  go_enter Tryd.func13, Tryd.ntmps13
  go_wp2
  go_ret
  exact ⟨rfl, rfl⟩
theorem reftake_yes (rb n : Nat) (f : Nat → Bool) (i : Nat) (w : World) (R : RefAt w rb n f) (hi : i < n) (hf : f i = true) :
    Calls Tryd.prog 13 #[refV rb n, .int .i64 i] w fun e w' => e = .returned (.int .i64 0) ∧ w' = w.setCell ⟨rb, i, none⟩ (.bool false) := by
  have h1 := R.cell i hi
  have h2 := R.free i hi
  have hm := R.max
  rw [hf] at h1
  clear hf
  unfold refV
  go_enter Tryd.func13, Tryd.ntmps13
  go_wp2
  go_ret
  exact ⟨rfl, rfl⟩
theorem refhas_no (rb n : Nat) (i : Int) (w : World) (h : i < 0 ∨ (n : Int) ≤ i) :
    Calls Tryd.prog 20 #[refV rb n, .int .i64 i] w fun e w' => e = .returned (.bool false) ∧ w = w' := by
  unfold refV
  by_cases h0 : 0 ≤ i
  · have h1 : (n : Int) ≤ i := by omega
    clear h
    go_enter Tryd.func20, Tryd.ntmps20
    go_wp2
    go_ret
    exact ⟨rfl, rfl⟩
  · clear h
    go_enter Tryd.func20, Tryd.ntmps20
    go_wp2
    go_ret
    exact ⟨rfl, rfl⟩
theorem refhas_yes (rb n : Nat) (f : Nat → Bool) (i : Nat) (w : World) (R : RefAt w rb n f) (hi : i < n) :
    Calls Tryd.prog 20 #[refV rb n, .int .i64 i] w fun e w' => e = .returned (.bool (f i)) ∧ w = w' := by
  have h1 := R.cell i hi
  have hm := R.max
  unfold refV
  go_enter Tryd.func20, Tryd.ntmps20
  go_wp2
  go_ret
  exact ⟨rfl, rfl⟩

/-- A slice of bools, wherever it begins. -/
def BoolRow (w : World) (a : Option Addr) (m : Nat) (g : Nat → Bool) : Prop :=
  ∀ k, k < m → ∃ b o, a = some ⟨b, o, none⟩ ∧ w.cell? ⟨b, o + k, none⟩ = some (.bool (g k))

theorem reflen_any (a : Option Addr) (m cap : Nat) (g : Nat → Bool) (w : World) (R : BoolRow w a m g) (hm : m ≤ 65536) :
    Calls Tryd.prog 28 #[.slice a m cap] w fun e w' => e = .returned (.int .i64 (cnt g 0 m : Nat)) ∧ w = w' := by
  have HR := Lib.hid R
  clear R
  go_enter Tryd.func28, Tryd.ntmps28
  go_wp2_with (fail)
  go_loop [3, 4] (fun x y => ∃ k : Nat, k ≤ m ∧ y = .int .i64 k ∧ x = .int .i64 (cnt g 0 k : Nat)) (fun _ y => m - (intOf y).toNat)
  case atStart => exact ⟨0, Nat.zero_le _, rfl, rfl⟩
  case round =>
    obtain ⟨k, hk, rfl, rfl⟩ := hrel
    by_cases hlt : k < m
    · obtain ⟨b, o, rfl, hc⟩ := HR.out k hlt
      have hcl := cnt_le g 0 k
      cases hg : g k with
      | true =>
        rw [hg] at hc
        have HC : Hid (cnt g 0 (k + 1) = cnt g 0 k + 1) := by show _ = _; rw [cnt, Nat.zero_add, hg]; rfl
        clear hg
        go_wp2_with (fail)
        go_round
        case rel => exact ⟨k + 1, hlt, by go_num, by rw [HC.out]; go_num⟩
        case measure => simp [intOf]; omega
      | false =>
        rw [hg] at hc
        have HC : Hid (cnt g 0 (k + 1) = cnt g 0 k) := by show _ = _; rw [cnt, Nat.zero_add, hg]; rfl
        clear hg
        go_wp2_with (fail)
        go_round
        case rel => exact ⟨k + 1, hlt, by go_num, by rw [HC.out]⟩
        case measure => simp [intOf]; omega
    · obtain rfl : k = m := by omega
      go_wp2_with (fail)
      go_ret
      exact ⟨rfl, rfl⟩

theorem refrun_less (v : Value) (i m : Int) (b : Bool) (w : World) (h : m < 1) :
    Calls Tryd.prog 15 #[v, .int .i64 i, .int .i64 m, .bool b] w fun e w' => e = fnd none ∧ w = w' := by
  by_cases h0 : i < 0
  all_goals
    go_enter Tryd.func15, Tryd.ntmps15
    go_wp2_with (fail)
    go_loop [10] (fun x => ∃ j : Int, x = .int .i64 j) (fun _ => 0)
    case atStart => exact ⟨_, rfl⟩
    case round =>
      obtain ⟨j, rfl⟩ := hrel
      go_wp2_with (fail)
      go_ret2
      exact ⟨rfl, rfl⟩

set_option maxHeartbeats 2000000 in
theorem refrun_in (rb n : Nat) (f : Nat → Bool) (i m : Int) (b : Bool) (w : World) (R : RefAt w rb n f) (h : 1 ≤ m) :
    Calls Tryd.prog 15 #[refV rb n, .int .i64 i, .int .i64 m, .bool b] w fun e w' => e = fnd (findN (runG f n m.toNat b) i.toNat n) ∧ w = w' := by
  have HR := Lib.hid R.cell
  have hn := R.max
  unfold refV
  by_cases h0 : i < 0
  all_goals
    go_enter Tryd.func15, Tryd.ntmps15
    go_wp2_with (fail)
    go_loop [10] (fun x => ∃ j : Nat, x = .int .i64 j ∧ i.toNat ≤ j ∧ Hid (∀ x, i.toNat ≤ x → x < j → runG f n m.toNat b x = false)) (fun x => n + 1 - (intOf x).toNat)
    case atStart => exact ⟨i.toNat, by go_num, Nat.le_refl _, fun x p q => by omega⟩
    case round =>
      obtain ⟨j, rfl, hj, HJ⟩ := hrel
      by_cases hfit : j < n ∧ m ≤ (n : Int) - j
      · obtain ⟨hjn, hmj⟩ := hfit
        go_wp2_with (fail)
        go_loop [11, 12] (fun x y => ∃ k : Nat, y = .int .i64 k ∧ k ≤ m.toNat ∧ x = .bool (allB f j b k)) (fun _ y => m.toNat - (intOf y).toNat)
        case atStart => exact ⟨0, rfl, Nat.zero_le _, rfl⟩
        case round =>
          obtain ⟨k, rfl, hk, rfl⟩ := hrel
          by_cases hlt : (k : Int) < m
          · have hc := HR.out (j + k) (by omega)
            have HS := Lib.hid (allB_succ f j b k)
            by_cases hfb : f (j + k) = b
            · have e1 : (f (j + k) == b) = true := by rw [hfb]; simp
              have HB := Lib.hid hfb
              clear hfb
              go_wp2_with (fail)
              go_round
              case rel => exact ⟨k + 1, by go_num, by omega, by rw [HS.out, HB.out]; simp⟩
              case measure => simp [intOf]; omega
            · have e1 : (f (j + k) == b) = false := beq_eq_false_iff_ne.2 hfb
              have HB := Lib.hid hfb
              clear hfb
              go_wp2_with (fail)
              go_round
              case rel => exact ⟨k + 1, by go_num, by omega, by rw [HS.out, beq_eq_false_iff_ne.2 HB.out]; simp⟩
              case measure => simp [intOf]; omega
          · obtain rfl : k = m.toNat := by omega
            cases ha : allB f j b m.toNat with
            | true =>
              have HN := Lib.hid (findN_some hj hjn (by unfold runG; rw [ha]; simp; omega) HJ.out)
              clear ha
              go_wp2_with (fail)
              go_ret2
              exact ⟨by rw [HN.out]; rfl, rfl⟩
            | false =>
              have HA := Lib.hid ha
              clear ha
              go_wp2_with (fail)
              go_round
              case rel => exact ⟨j + 1, by go_num, by omega, fun x p q => by
                by_cases hx : x < j
                · exact HJ.out x p hx
                · rw [show x = j from by omega]; unfold runG; rw [HA.out]; simp⟩
              case measure => simp [intOf]; omega
      · have HN := Lib.hid (findN_none (g := runG f n m.toNat b) (a := i.toNat) (n := n) fun x p q => by
          by_cases hx : x < j
          · exact HJ.out x p hx
          · unfold runG; rw [decide_eq_false (by omega)]; rfl)
        by_cases hjn : j < n
        · have hmj : ¬ m ≤ (n : Int) - j := by omega
          clear hfit
          go_wp2_with (fail)
          go_ret2
          exact ⟨by rw [HN.out]; rfl, rfl⟩
        · clear hfit
          go_wp2_with (fail)
          go_ret2
          exact ⟨by rw [HN.out]; rfl, rfl⟩
theorem refrun_any (rb n : Nat) (f : Nat → Bool) (i m : Int) (b : Bool) (w : World) (R : RefAt w rb n f) :
    Calls Tryd.prog 15 #[refV rb n, .int .i64 i, .int .i64 m, .bool b] w fun e w' => e = fnd (refO f n m i b) ∧ w = w' := by
  unfold refO
  by_cases h : m < 1
  · rw [if_pos h]; exact refrun_less _ i m b w h
  · rw [if_neg h]; exact refrun_in rb n f i m b w R (by omega)
end Go.Proofs.YtkecmoljaopgbaaDoor
