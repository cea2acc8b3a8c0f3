/-
  Run: the least run of so many.
-/
import Derived.Test.YtkecmoljaopgbaaDoorSearch
namespace Go.Proofs.YtkecmoljaopgbaaDoor
open Go.RowKit Go Bm

theorem run_less (a : Option Addr) (i m : Int) (w : World) (hm : m < 1) :
    Calls Tryd.prog 17 #[.pointer a, .int .i64 i, .int .i64 m] w fun e w' => e = fnd none ∧ w = w' := by
  go_enter Tryd.func17, Tryd.ntmps17
  go_wp2_with (fail)
  go_ret2
  exact ⟨rfl, rfl⟩

theorem run_any (p wb n : Nat) (f : Nat → Bool) (i m : Int) (w : World) (S : SetAt w p wb n f) (hT : TabAt 0 Lib.deBruijn64tab w) (hm1 : 1 ≤ m) :
    Calls Tryd.prog 17 #[.pointer (some ⟨p, 0, none⟩), .int .i64 i, .int .i64 m] w fun e w' => e = fnd (findN (runB f n m.toNat) i.toNat n) ∧ w = w' := by
  have h0 := S.size
  have hm := S.max
  go_enter Tryd.func17, Tryd.ntmps17
  go_wp2_with (fail)
  go_loop [1] (fun x => ∃ j : Int, x = .int .i64 j ∧ i.toNat ≤ j.toNat ∧ ∀ k, i.toNat ≤ k → k < j.toNat → runB f n m.toNat k = false) (fun x => n - (intOf x).toNat)
  case atStart => exact ⟨i, rfl, Nat.le_refl _, fun k a b => by omega⟩
  case round =>
    obtain ⟨j, rfl, hj1, hj2⟩ := hrel
    have HJ := Lib.hid hj2
    clear hj2
    go_wp2_with (fail)
    refine (find_any p wb n f j true w S hT).mono ?_
    rintro e w' ⟨rfl, rfl⟩
    cases hf : findN (turned f true) j.toNat n with
    | none =>
      have HN := Lib.hid (run_none' (by omega) HJ.out hf)
      clear hf
      unfold fnd
      go_wp2_with (fail)
      go_ret2
      exact ⟨by rw [HN.out]; rfl, rfl⟩
    | some s =>
      obtain ⟨s1, s2, s3, s4⟩ := of_findN_some hf
      have HS := Lib.hid (And.intro s3 s4)
      clear hf s3 s4
      unfold fnd
      by_cases hmn : (n : Int) - s < m
      · have HN := Lib.hid (run_none (by omega) HJ.out HS.out.2 (show n < s + m.toNat by omega))
        go_wp2_with (fail)
        go_ret2
        exact ⟨by rw [HN.out]; rfl, rfl⟩
      · go_wp2_with (fail)
        refine (find_any p wb n f s false w S hT).mono ?_
        rintro e w' ⟨rfl, rfl⟩
        rw [Int.toNat_natCast]
        cases hf : findN (turned f false) s n with
        | none =>
          have HN := Lib.hid (run_found (by omega) HJ.out HS.out.2 (by omega) (show s + m.toNat ≤ n by omega) fun x a b => of_findN_none hf x a (by omega))
          clear hf
          unfold fnd
          go_wp2_with (fail)
          go_ret2
          exact ⟨by rw [HN.out]; rfl, rfl⟩
        | some e =>
          obtain ⟨e1, e2, e3, e4⟩ := of_findN_some hf
          unfold fnd
          by_cases hd : m ≤ (e : Int) - s
          · have HN := Lib.hid (run_found (by omega) HJ.out HS.out.2 (by omega) (show s + m.toNat ≤ n by omega) fun x a b => e4 x a (by omega))
            clear hf e3 e4
            go_wp2_with (fail)
            go_ret2
            exact ⟨by rw [HN.out]; rfl, rfl⟩
          · have HN := Lib.hid (run_next (by omega) HJ.out HS.out.2 e3 (show e < s + m.toNat by omega))
            have hse : s ≠ e := fun h => by
              have h1 := turned_true HS.out.1
              have h2 := turned_false e3
              rw [h, h2] at h1
              cases h1
            clear hf e3 e4
            go_wp2_with (fail)
            go_round
            case rel => exact ⟨e, rfl, by omega, fun k a b => HN.out k a (by omega)⟩
            case measure => simp [intOf]; omega
end Go.Proofs.YtkecmoljaopgbaaDoor
