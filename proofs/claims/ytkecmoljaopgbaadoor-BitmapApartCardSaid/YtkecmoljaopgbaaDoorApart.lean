/-
  The walk of BitmapApart: it returns true, and below the old heap nothing has turned.
-/
import Derived.Test.YtkecmoljaopgbaaDoorLeast
import Derived.Deep.DeepCutAuto
import Derived.Deep.CutBlock
namespace Go.Proofs.YtkecmoljaopgbaaDoor
open Go.RowKit Go Bm

/-- From j + k on up to j + M nothing is in. -/
def FreeFrom (h : Nat → Bool) (j k M : Nat) : Prop := ∀ x, k ≤ x → x < M → h (j + x) = false

set_option maxRecDepth 100000 in
set_option maxHeartbeats 2000000 in
theorem apart_in (n fr m : Int) (a : Option Addr) (len cap : Nat) (zs : List Int) (w : World) (hl : len ≤ 200) (hn : n ≤ 2000) (hm : m ≤ 2000)
    (hc : IntRow w a len zs) (hT : TabAt 0 Lib.deBruijn64tab w) :
    Calls Tryd.prog 5 #[.int .i64 n, .slice a len cap, .int .i64 fr, .int .i64 m] w fun e w' => e = .returned (.bool true) ∧ Below w.heap.size w w' := by
  have HC := Lib.hid hc
  clear hc
  go_enter Tryd.func5, Tryd.ntmps5
  go_wp2_with (fail)
  refine (new_own n w hT).mono ?_
  rintro e w1 ⟨p, wb, rfl, O⟩
  generalize clampN n = N at O
  go_wp2_with (fail)
  go_loopw [38] (fun x wr => ∃ k : Nat, ∃ f, k ≤ len ∧ x = .int .i64 k ∧ Own w.heap.size w wr p wb N f) (fun x _ => len - (intOf x).toNat)
  case atStart => exact ⟨0, _, Nat.zero_le _, rfl, O⟩
  case round =>
    obtain ⟨k, f, hk, rfl, O1⟩ := hrel
    by_cases hlt : k < len
    · obtain ⟨b, o, rfl, hc⟩ := HC.out k hlt
      have hb := World.block_lt_of_cell? _ _ hc
      rw [← O1.below.cell hb] at hc
      go_wp2_with (fail)
      refine (put_some _ _ _ p wb N f _ O1).mono ?_
      rintro e w2 ⟨z, f2, rfl, O2⟩
      go_wp2_with (fail)
      go_roundw
      case rel => exact ⟨k + 1, f2, hlt, by go_num, O2⟩
      case measure => simp [intOf]; omega
    · have hN := O1.set.max
      go_wp2_with (fail)
      refine (next_own _ _ _ p wb N f fr _ O1 rfl).mono ?_
      rintro e w' ⟨rfl, rfl⟩
      rw [fnd_eq]
      generalize ho : findN (turned f false) fr.toNat N = o
      have HO := Lib.hid ho
      clear ho
      go_upto_if 54 with fail
      go_cut [] (fun wc => ∃ g, Own w.heap.size w wc p wb N g)
      case first =>
        cases o with
        | none =>
          have hb : ixB none = false := rfl
          go_wp2_with (fail)
          go_meet
          exact ⟨f, O1⟩
        | some j =>
          have hb : ixB (some j) = true := rfl
          have hi : ixI (some j) = j := rfl
          obtain ⟨j1, j2, j3, j4⟩ := of_findN_some HO.out
          have HJ := Lib.hid (And.intro j3 j4)
          clear j3 j4
          go_wp2_with (fail)
          all_goals
            go_loopw [13] (fun x wr => ∃ k : Nat, x = .int .i64 k ∧ fr.toNat ≤ k ∧ k ≤ j ∧ Own w.heap.size w wr p wb N f) (fun x _ => j - (intOf x).toNat)
            case atStart => exact ⟨fr.toNat, by go_num, Nat.le_refl _, by omega, by assumption⟩
            case round =>
              obtain ⟨k, rfl, k1, k2, O3⟩ := hrel
              by_cases hk : k < j
              · have hx := turned_false (HJ.out.2 k k1 hk)
                have HX := Lib.hid hx
                clear hx
                go_wp2_with (fail)
                refine (has_own _ _ _ p wb N _ k O3 (by omega) (by omega)).mono ?_
                rintro e w2 ⟨rfl, O4, _⟩
                rw [Int.toNat_natCast, HX.out]
                go_wp2_with (fail)
                go_roundw
                case rel => exact ⟨k + 1, by go_num, by omega, by omega, O4⟩
                case measure => simp [intOf]; omega
              · go_wp2_with (fail)
                refine (take_own _ _ _ p wb N f j O3 (by omega) (by omega) (turned_false HJ.out.1)).mono ?_
                rintro e w2 ⟨rfl, O4, _⟩
                go_wp2_with (fail)
                refine (put_own _ _ _ p wb N _ j O4 (by omega) (by omega) (upd_self _ _ _)).mono ?_
                rintro e w3 ⟨rfl, O5, _⟩
                go_wp2_with (fail)
                go_meet
                exact ⟨_, O5⟩
      case rest =>
        obtain ⟨g, O2⟩ := hcut
        clear HO O1
        go_wp2_with (fail)
        refine (run_all _ _ _ p wb N g fr m O2).mono ?_
        rintro e w' ⟨rfl, rfl⟩
        rw [fnd_eq]
        generalize ho : runO g N m fr = o
        have HO := Lib.hid ho
        clear ho
        go_upto_if 82 with fail
        go_cut [] (fun wc => ∃ g, Own w.heap.size w wc p wb N g)
        case first =>
          cases o with
          | none =>
            have hb : ixB none = false := rfl
            go_wp2_with (fail)
            go_meet
            exact ⟨_, O2⟩
          | some j =>
            have hb : ixB (some j) = true := rfl
            have hi : ixI (some j) = j := rfl
            obtain ⟨hm1, j1, j5, j6⟩ := of_runO HO.out
            have HJ := Lib.hid j6
            clear j6
            simp only [hi, hb]
            go_wp2_with (fail)
            go_loopw [84] (fun x wr => ∃ k : Nat, ∃ h, x = .int .i64 k ∧ k ≤ m.toNat ∧ Own w.heap.size w wr p wb N h ∧ FreeFrom h j k m.toNat) (fun x _ => m.toNat - (intOf x).toNat)
            case atStart => exact ⟨0, g, rfl, Nat.zero_le _, O2, fun x _ b => HJ.out x b⟩
            case round =>
              obtain ⟨k, h, rfl, k1, O3, k2⟩ := hrel
              have HK := Lib.hid k2
              clear k2
              by_cases hk : (k : Int) < m
              · go_wp2_with (fail)
                refine (put_own _ _ _ p wb N h (j + k) O3 (by omega) (by omega) (by rw [show ((j : Int) + (k : Int)).toNat = j + k from by omega]; exact HK.out k (Nat.le_refl _) (by omega))).mono ?_
                rintro e w2 ⟨rfl, O4, _⟩
                rw [show ((j : Int) + (k : Int)).toNat = j + k from by omega] at O4
                go_wp2_with (fail)
                go_roundw
                case rel => exact ⟨k + 1, _, by go_num, by omega, O4, fun x a b => by rw [upd_other _ _ (by omega)]; exact HK.out x (by omega) b⟩
                case measure => simp [intOf]; omega
              · go_wp2_with (fail)
                go_meet
                exact ⟨_, O3⟩
        case rest =>
          obtain ⟨g3, O3⟩ := hcut
          clear HO O2
          go_wp2_with (fail)
          refine (free_own _ _ _ p wb N g3 fr _ O3 rfl).mono ?_
          rintro e w' ⟨rfl, rfl⟩
          rw [fnd_eq]
          generalize ho : findN (turned g3 true) fr.toNat N = o
          have HO := Lib.hid ho
          clear ho
          go_upto_if 100 with fail
          go_cut [] (fun wc => ∃ g, Own w.heap.size w wc p wb N g)
          case first =>
            cases o with
            | none =>
              have hb : ixB none = false := rfl
              go_wp2_with (fail)
              go_meet
              exact ⟨_, O3⟩
            | some j =>
              have hb : ixB (some j) = true := rfl
              have hi : ixI (some j) = j := rfl
              obtain ⟨j1, j2, j3, j4⟩ := of_findN_some HO.out
              have HJ := Lib.hid (And.intro j3 j4)
              clear j3 j4
              simp only [hi, hb]
              go_wp2_with (fail)
              all_goals
                go_loopw [19] (fun x wr => ∃ k : Nat, x = .int .i64 k ∧ fr.toNat ≤ k ∧ k ≤ j ∧ Own w.heap.size w wr p wb N g3) (fun x _ => j - (intOf x).toNat)
                case atStart => exact ⟨fr.toNat, by go_num, Nat.le_refl _, by omega, O3⟩
                case round =>
                  obtain ⟨k, rfl, k1, k2, O4⟩ := hrel
                  by_cases hk : k < j
                  · have HX := Lib.hid (turned_true (HJ.out.2 k k1 hk))
                    go_wp2_with (fail)
                    refine (has_own _ _ _ p wb N _ k O4 (by omega) (by omega)).mono ?_
                    rintro e w2 ⟨rfl, O5, _⟩
                    rw [Int.toNat_natCast, HX.out]
                    go_wp2_with (fail)
                    go_roundw
                    case rel => exact ⟨k + 1, by go_num, by omega, by omega, O5⟩
                    case measure => simp [intOf]; omega
                  · go_wp2_with (fail)
                    refine (put_own _ _ _ p wb N g3 j O4 (by omega) (by omega) (turned_true HJ.out.1)).mono ?_
                    rintro e w3 ⟨rfl, O5, _⟩
                    go_wp2_with (fail)
                    go_meet
                    exact ⟨_, O5⟩
          case rest =>
            obtain ⟨g4, O4⟩ := hcut
            clear HO O3
            go_wp2_with (fail)
            refine (known_any _ O4.table).mono ?_
            rintro e w2 ⟨rfl, hb2⟩
            go_wp2_with (fail)
            go_ret
            exact ⟨rfl, O4.below.trans (hb2.mono O4.below.size)⟩

theorem apart_out (n fr m : Int) (a : Option Addr) (len cap : Nat) (w : World) (hT : TabAt 0 Lib.deBruijn64tab w) (hn : len ≤ 9223372036854775807) (h : 2000 < n ∨ 200 < len ∨ 2000 < m) :
    Calls Tryd.prog 5 #[.int .i64 n, .slice a len cap, .int .i64 fr, .int .i64 m] w fun e w' => e = .returned (.bool true) ∧ Below w.heap.size w w' := by
  have H : n > 2000 ∨ (¬ n > 2000 ∧ len > 200) ∨ (¬ n > 2000 ∧ ¬ len > 200 ∧ m > 2000) := by omega
  clear h
  rcases H with h1 | ⟨h1, h2⟩ | ⟨h1, h2, h3⟩
  all_goals
    go_enter Tryd.func5, Tryd.ntmps5
    go_wp2_with (fail)
    refine (known_any _ hT).mono ?_
    rintro e w2 ⟨rfl, hb2⟩
    go_wp2_with (fail)
    go_ret
    exact ⟨rfl, hb2⟩

theorem apart_any (n fr m : Int) (a : Option Addr) (len cap : Nat) (zs : List Int) (w : World) (hn : len ≤ 9223372036854775807) (hc : IntRow w a len zs) (hT : TabAt 0 Lib.deBruijn64tab w) :
    Calls Tryd.prog 5 #[.int .i64 n, .slice a len cap, .int .i64 fr, .int .i64 m] w fun e w' => e = .returned (.bool true) ∧ Below w.heap.size w w' := by
  by_cases h : 2000 < n ∨ 200 < len ∨ 2000 < m
  · exact apart_out n fr m a len cap w hT hn h
  · exact apart_in n fr m a len cap zs w (by omega) (by omega) (by omega) hc hT
end Go.Proofs.YtkecmoljaopgbaaDoor
