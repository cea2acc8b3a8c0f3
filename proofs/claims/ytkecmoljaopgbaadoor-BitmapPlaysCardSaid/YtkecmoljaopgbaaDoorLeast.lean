/-
  The walk of BitmapLeast: it returns true, and below the old heap nothing has turned.
-/
import Derived.Test.YtkecmoljaopgbaaDoorOwn
namespace Go.Proofs.YtkecmoljaopgbaaDoor
open Go.RowKit Go Bm

/-- The numbers of a slice that came in: nil has none. -/
def IntRow (w : World) (a : Option Addr) (len : Nat) (zs : List Int) : Prop :=
  ∀ i, i < len → ∃ b o, a = some ⟨b, o, none⟩ ∧ w.cell? ⟨b, o + i, none⟩ = some (.int .i64 (zs.getD i 0))

set_option maxHeartbeats 1000000 in
theorem least_in (n fr m : Int) (a : Option Addr) (len cap : Nat) (zs : List Int) (w : World) (hl : len ≤ 200) (hn : n ≤ 2000) (hm : m ≤ 2000)
    (hc : IntRow w a len zs) (hT : TabAt 0 Lib.deBruijn64tab w) :
    Calls Tryd.prog 6 #[.int .i64 n, .slice a len cap, .int .i64 fr, .int .i64 m] w fun e w' => e = .returned (.bool true) ∧ Below w.heap.size w w' := by
  have HC := Lib.hid hc
  clear hc
  go_enter Tryd.func6, Tryd.ntmps6
  go_wp2_with (fail)
  refine (new_own n w hT).mono ?_
  rintro e w1 ⟨p, wb, rfl, O⟩
  generalize clampN n = N at O
  go_wp2_with (fail)
  go_loopw [35] (fun x wr => ∃ k : Nat, ∃ f, k ≤ len ∧ x = .int .i64 k ∧ Own w.heap.size w wr p wb N f) (fun x _ => len - (intOf x).toNat)
  case atStart => exact ⟨0, _, Nat.zero_le _, rfl, O⟩
  case round =>
    obtain ⟨k, f, hk, rfl, O1⟩ := hrel
    by_cases hlt : k < len
    · obtain ⟨b, o, rfl, hc⟩ := HC.out k hlt
      have hb := World.block_lt_of_cell? _ _ hc
      rw [← O1.below.cell hb] at hc
      go_wp2_with (fail)
      refine (put_some _ _ _ p wb N f _ O1).mono ?_
      rintro e w2 ⟨z, f2, rfl, O2⟩
      go_wp2_with (fail)
      go_roundw
      case rel => exact ⟨k + 1, f2, hlt, by go_num, O2⟩
      case measure => simp [intOf]; omega
    · skip
      go_wp2_with (fail)
      have hN := O1.set.max
      by_cases h1 : m < 1
      · refine (run_less _ _ _ _ h1).mono ?_
        rintro e w' ⟨rfl, rfl⟩
        unfold fnd
        go_wp2_with (fail)
        refine (size_own _ _ _ p wb N f O1).mono ?_
        rintro e w' ⟨rfl, rfl⟩
        go_wp2_with (fail)
        all_goals
          go_loop [14] (fun x => ∃ i : Int, x = .int .i64 i) (fun _ => 0)
          case atStart => exact ⟨_, rfl⟩
          case round =>
            obtain ⟨i, rfl⟩ := hrel
            by_cases hlt2 : i < N
            all_goals
              go_wp2_with (fail)
              refine (known_any _ O1.table).mono ?_
              rintro e w2 ⟨rfl, hb2⟩
              go_wp2_with (fail)
              go_ret
              exact ⟨rfl, O1.below.trans (hb2.mono O1.below.size)⟩
      · have hm1 : 1 ≤ m := by omega
        clear h1
        cases ho : findN (runB f N m.toNat) fr.toNat N with
        | none =>
          have HL : Hid (∀ i : Nat, fr.toNat ≤ i → (i : Int) < N - m + 1 → i + m.toNat ≤ N ∧ runB f N m.toNat i = false) := fun i a b => ⟨by omega, of_findN_none ho i a (by omega)⟩
          have HO := Lib.hid ho
          clear ho
          refine (run_own _ _ _ p wb N f fr m none O1 hm1 HO.out).mono ?_
          rintro e w' ⟨rfl, rfl⟩
          unfold fnd
          go_wp2_with (fail)
          refine (size_own _ _ _ p wb N f O1).mono ?_
          rintro e w' ⟨rfl, rfl⟩
          go_wp2_with (fail)
          all_goals
            go_loop [14] (fun x => ∃ i : Nat, x = .int .i64 i ∧ fr.toNat ≤ i) (fun x => ((N - m + 1 : Int) - intOf x).toNat)
            case atStart => exact ⟨fr.toNat, by go_num, Nat.le_refl _⟩
            case round =>
              obtain ⟨i, rfl, hi⟩ := hrel
              by_cases hlt2 : (i : Int) < N - m + 1
              · obtain ⟨g1, g2⟩ := HL.out i hi hlt2
                obtain ⟨k2, hk2, hk3, hk4⟩ := next_inside g1 g2
                have HK := Lib.hid hk2
                clear g2 hk2
                go_wp2_with (fail)
                refine (next_own _ _ _ p wb N f i (some k2) O1 HK.out).mono ?_
                rintro e w' ⟨rfl, rfl⟩
                unfold fnd
                go_wp2_with (fail)
                go_round
                case rel => exact ⟨i + 1, by go_num, by omega⟩
                case measure => simp [intOf]; omega
              · go_wp2_with (fail)
                refine (known_any _ O1.table).mono ?_
                rintro e w2 ⟨rfl, hb2⟩
                go_wp2_with (fail)
                go_ret
                exact ⟨rfl, O1.below.trans (hb2.mono O1.below.size)⟩
        | some s =>
          have HL : Hid (∀ i : Nat, fr.toNat ≤ i → (i : Int) < s → i + m.toNat ≤ N ∧ runB f N m.toNat i = false) := by
            obtain ⟨s1, s2, s3, s4⟩ := of_findN_some ho
            have s5 := (runB_iff.1 s3).1
            exact fun i a b => ⟨by omega, s4 i a (by omega)⟩
          have HO := Lib.hid ho
          clear ho
          refine (run_own _ _ _ p wb N f fr m (some s) O1 hm1 HO.out).mono ?_
          rintro e w' ⟨rfl, rfl⟩
          unfold fnd
          go_wp2_with (fail)
          all_goals
            go_loop [14] (fun x => ∃ i : Nat, x = .int .i64 i ∧ fr.toNat ≤ i) (fun x => ((s : Int) - intOf x).toNat)
            case atStart => exact ⟨fr.toNat, by go_num, Nat.le_refl _⟩
            case round =>
              obtain ⟨i, rfl, hi⟩ := hrel
              by_cases hlt2 : (i : Int) < s
              · obtain ⟨g1, g2⟩ := HL.out i hi hlt2
                obtain ⟨k2, hk2, hk3, hk4⟩ := next_inside g1 g2
                have HK := Lib.hid hk2
                clear g2 hk2
                go_wp2_with (fail)
                refine (next_own _ _ _ p wb N f i (some k2) O1 HK.out).mono ?_
                rintro e w' ⟨rfl, rfl⟩
                unfold fnd
                go_wp2_with (fail)
                go_round
                case rel => exact ⟨i + 1, by go_num, by omega⟩
                case measure => simp [intOf]; omega
              · go_wp2_with (fail)
                refine (known_any _ O1.table).mono ?_
                rintro e w2 ⟨rfl, hb2⟩
                go_wp2_with (fail)
                go_ret
                exact ⟨rfl, O1.below.trans (hb2.mono O1.below.size)⟩

theorem least_out (n fr m : Int) (a : Option Addr) (len cap : Nat) (w : World) (hT : TabAt 0 Lib.deBruijn64tab w) (hn : len ≤ 9223372036854775807) (h : 2000 < n ∨ 200 < len ∨ 2000 < m) :
    Calls Tryd.prog 6 #[.int .i64 n, .slice a len cap, .int .i64 fr, .int .i64 m] w fun e w' => e = .returned (.bool true) ∧ Below w.heap.size w w' := by
  have H : n > 2000 ∨ (¬ n > 2000 ∧ len > 200) ∨ (¬ n > 2000 ∧ ¬ len > 200 ∧ m > 2000) := by omega
  clear h
  rcases H with h1 | ⟨h1, h2⟩ | ⟨h1, h2, h3⟩
  all_goals
    go_enter Tryd.func6, Tryd.ntmps6
    go_wp2_with (fail)
    refine (known_any _ hT).mono ?_
    rintro e w2 ⟨rfl, hb2⟩
    go_wp2_with (fail)
    go_ret
    exact ⟨rfl, hb2⟩

theorem least_any (n fr m : Int) (a : Option Addr) (len cap : Nat) (zs : List Int) (w : World) (hn : len ≤ 9223372036854775807) (hc : IntRow w a len zs) (hT : TabAt 0 Lib.deBruijn64tab w) :
    Calls Tryd.prog 6 #[.int .i64 n, .slice a len cap, .int .i64 fr, .int .i64 m] w fun e w' => e = .returned (.bool true) ∧ Below w.heap.size w w' := by
  by_cases h : 2000 < n ∨ 200 < len ∨ 2000 < m
  · exact least_out n fr m a len cap w hT hn h
  · exact least_in n fr m a len cap zs w (by omega) (by omega) (by omega) hc hT
end Go.Proofs.YtkecmoljaopgbaaDoor
