/-
  The document's own answer: the walk of its May, behind its first test.
-/
import Derived.Test.YtcbdmdalijhkoaaRefHead
namespace Go.Proofs.Ytcbdmdalijhkoaa
open Go.RowKit Go

set_option maxHeartbeats 8000000 in
set_option maxRecDepth 100000 in
theorem refmay_body (A : Array Value) (g : Nat → Int) (w : World) (hA : Cfg A g) (h : headR g = true) :
    Calls Try.prog 14 #[.agg A] w fun e w' => e = .returned (.bool (mayR g)) ∧ Below w.heap.size w w' := by
  have HM := Lib.hid (show mayR g = (allR 16 (homeR g) && (allR 8 (rowR g) && tailR g)) by unfold mayR; rw [h, Bool.true_and])
  have hh := h
  simp only [headR, Bool.and_eq_true] at hh
  obtain ⟨e0, e1, e2⟩ := hh
  have e0 := of_withinB e0
  have e1 := of_withinB e1
  have e2 := of_withinB e2
  obtain ⟨n, hn⟩ := Int.eq_ofNat_of_zero_le (show 0 ≤ g 0 by omega)
  obtain ⟨c, hc⟩ := Int.eq_ofNat_of_zero_le (show 0 ≤ g 1 by omega)
  have a0 : A[0]? = some (.int .i64 n) := by rw [← hn]; exact hA.get 0 (by decide)
  have a1 : A[1]? = some (.int .i64 c) := by rw [← hc]; exact hA.get 1 (by decide)
  have a90 : A[90]? = some (.int .i64 (g 90)) := hA.get 90 (by decide)
  have hn1 : 1 ≤ n := by omega
  have hn8 : n ≤ 8 := by omega
  have hc1 : 1 ≤ c := by omega
  have hc16 : c ≤ 16 := by omega
  obtain ⟨s1, s2⟩ := e2
  have HN := Lib.hid hn
  have HC := Lib.hid hc
  have HA := Lib.hid hA
  clear hA h e0 e1 hn hc
  generalize g 90 = z at a90 s1 s2
  go_enter Try.func14, Try.ntmps14
  go_wp2_with (fail)
  clear a90 s1 s2
  go_loopw [3] (fun x wr => ∃ k : Nat, k ≤ 16 ∧ x = .int .i64 k ∧ Hid (∀ i, i < k → homeR g i = true) ∧ ∃ m, wr = (w.alloc (.cells A 26)).drewN m) (fun x _ => 16 - (intOf x).toNat)
  case atStart => exact ⟨0, Nat.zero_le _, rfl, Lib.hid (fun i h => absurd h (Nat.not_lt_zero _)), 0, rfl⟩
  case round =>
    obtain ⟨k, hk, rfl, HK, m, rfl⟩ := hrel
    by_cases hlt : k < 16
    · have ah : A[2 + k]? = some (.int .i64 (g (2 + k))) := HA.out.get _ (by omega)
      have HL := Lib.hid (show homeR g k = false → mayR g = false from fun h => by rw [HM.out, allR_false k hlt h]; rfl)
      have HR := Lib.hid (show homeR g k = if (k : Int) < c then decide (0 ≤ g (2 + k)) && decide (g (2 + k) < n) else g (2 + k) == 0 by unfold homeR; rw [HN.out, HC.out])
      generalize g (2 + k) = x at ah HR
      have ik : (k : Int) < 16 := by omega
      by_cases h1 : (k : Int) < c
      · have d1 : decide (c ≤ k) = false := by simp; omega
        by_cases h2 : x < 0
        · have HF := Lib.hid (HL.out (by rw [HR.out, if_pos h1]; simp; omega))
          go_wp2_with (fail)
          go_quiet (fail)
          go_wp2_with (fail)
          go_ret
          exact ⟨by rw [HF.out]; rfl, below_drewN (below_drewN ((Below.refl _ _).alloc (Nat.le_refl _) _) _) _⟩
        · have d2 : decide (x < 0) = false := by simpa using h2
          by_cases h3 : (n : Int) ≤ x
          · have HF := Lib.hid (HL.out (by rw [HR.out, if_pos h1]; simp; omega))
            clear h2
            go_wp2_with (fail)
            go_quiet (fail)
            go_wp2_with (fail)
            go_ret
            exact ⟨by rw [HF.out]; rfl, below_drewN (below_drewN ((Below.refl _ _).alloc (Nat.le_refl _) _) _) _⟩
          · have d3 : decide ((n : Int) ≤ x) = false := by simpa using h3
            have HT := Lib.hid (show homeR g k = true by rw [HR.out, if_pos h1]; simp; omega)
            clear h2 h3
            go_wp2_with (fail)
            go_quiet (fail)
            go_wp2_with (fail)
            go_roundw
            case rel => exact ⟨k + 1, hlt, by go_num, Lib.hid (fun i h => by
              by_cases e : i = k
              · subst e; exact HT.out
              · exact HK.out i (by omega)), _, rfl⟩
            case measure => simp [intOf]; omega
      · have d1 : decide (k < c) = false := by simp; omega
        have h1' : c ≤ k := by omega
        by_cases h2 : x = 0
        · subst h2
          have HT := Lib.hid (show homeR g k = true by rw [HR.out, if_neg h1]; rfl)
          clear h1
          go_wp2_with (fail)
          go_quiet (fail)
          go_wp2_with (fail)
          go_roundw
          case rel => exact ⟨k + 1, hlt, by go_num, Lib.hid (fun i h => by
            by_cases e : i = k
            · subst e; exact HT.out
            · exact HK.out i (by omega)), _, rfl⟩
          case measure => simp [intOf]; omega
        · have d2 : (x != 0) = true := by simpa using h2
          have HF := Lib.hid (HL.out (by rw [HR.out, if_neg h1]; simpa using h2))
          clear h1 h2
          go_wp2_with (fail)
          go_quiet (fail)
          go_wp2_with (fail)
          go_ret
          exact ⟨by rw [HF.out]; rfl, below_drewN (below_drewN ((Below.refl _ _).alloc (Nat.le_refl _) _) _) _⟩
    · have HM2 := Lib.hid (show mayR g = (allR 8 (rowR g) && tailR g) by rw [HM.out, allR_true (fun i h => HK.out i (by omega)), Bool.true_and])
      go_wp2_with (fail)
      clear a1
      have a93 : A[93]? = some (.int .i64 (g 93)) := HA.out.get 93 (by decide)
      have HH := Lib.hid (show ∀ i, frameR g i = if (i : Int) < g 0 then decide (4 ≤ g (18 + i)) && (decide (g (18 + i) ≤ 128) && decide (g 93 ≤ g (18 + i))) else g (18 + i) == 0 from fun _ => rfl)
      go_loopw [4, 5, 6, 7] (fun x _ _ _ wr => ∃ i : Nat, i ≤ 8 ∧ x = .int .i64 i ∧ Hid (∀ l, l < i → rowR g l = true) ∧ ∃ m, wr = (w.alloc (.cells A 26)).drewN m) (fun x _ _ _ _ => 8 - (intOf x).toNat)
      case atStart => exact ⟨0, Nat.zero_le _, rfl, Lib.hid (fun i h => absurd h (Nat.not_lt_zero _)), m, rfl⟩
      case round =>
        clear HK hlt hk
        obtain ⟨i, hi, rfl, HK, m1, rfl⟩ := hrel
        by_cases hlt : i < 8
        · have af : A[18 + i]? = some (.int .i64 (g (18 + i))) := HA.out.get _ (by omega)
          have HL := Lib.hid (show rowR g i = false → mayR g = false from fun h => by rw [HM2.out, allR_false i hlt h]; rfl)
          have ii : (i : Int) < 8 := by omega
          have HF1 := Lib.hid (HH.out i)
          generalize g (18 + i) = f at af HF1
          obtain ⟨hgh, hhg⟩ : ∃ x, x = g 93 := ⟨_, rfl⟩
          rw [← hhg] at a93 HF1
          have HG := Lib.hid hhg
          clear hhg
          by_cases hin : i < n
          · have HF2 := Lib.hid (show frameR g i = (decide (4 ≤ f) && (decide (f ≤ 128) && decide (hgh ≤ f))) by rw [HF1.out, if_pos (by rw [HN.out]; omega)])
            by_cases q1 : f < 4
            · have HF := Lib.hid (HL.out (by unfold rowR; rw [HF2.out]; simp; omega))
              go_wp2_with (fail)
              go_quiet (fail)
              go_wp2_with (fail)
              go_ret
              exact ⟨by rw [HF.out]; rfl, below_drewN (below_drewN ((Below.refl _ _).alloc (Nat.le_refl _) _) _) _⟩
            · have q1' : decide (f < 4) = false := by simpa using q1
              by_cases q2 : 128 < f
              · have HF := Lib.hid (HL.out (by unfold rowR; rw [HF2.out]; simp; omega))
                clear q1
                go_wp2_with (fail)
                go_quiet (fail)
                go_wp2_with (fail)
                go_ret
                exact ⟨by rw [HF.out]; rfl, below_drewN (below_drewN ((Below.refl _ _).alloc (Nat.le_refl _) _) _) _⟩
              · have q2' : decide (128 < f) = false := by simpa using q2
                by_cases q3 : f < hgh
                · have HF := Lib.hid (HL.out (by unfold rowR; rw [HF2.out]; simp; omega))
                  clear q1 q2
                  go_wp2_with (fail)
                  go_quiet (fail)
                  go_wp2_with (fail)
                  go_ret
                  exact ⟨by rw [HF.out]; rfl, below_drewN (below_drewN ((Below.refl _ _).alloc (Nat.le_refl _) _) _) _⟩
                · have q3' : decide (f < hgh) = false := by simpa using q3
                  have HFR := Lib.hid (show frameR g i = true by rw [HF2.out]; simp; omega)
                  clear q1 q2 q3
                  go_wp2_with (fail)
                  go_quiet (fail)
                  clear q1' q2' q3'
                  go_wp2_with (fail)
                  clear af
                  go_loopw [6, 7] (fun x _ wr => ∃ j : Nat, j ≤ 8 ∧ x = .int .i64 j ∧ Hid (∀ l, l < j → cellR g i l = true) ∧ ∃ m, wr = (w.alloc (.cells A 26)).drewN m) (fun x _ _ => 8 - (intOf x).toNat)
                  case atStart => exact ⟨0, Nat.zero_le _, rfl, Lib.hid (fun i h => absurd h (Nat.not_lt_zero _)), _, World.drewN_drewN _ _ _⟩
                  case round =>
                    obtain ⟨j, hj, rfl, HJ, m2, rfl⟩ := hrel
                    by_cases hlj : j < 8
                    · have ad : A[26 + i * 8 + j]? = some (.int .i64 (g (26 + i * 8 + j))) := HA.out.get _ (by omega)
                      have ae : A[26 + j * 8 + i]? = some (.int .i64 (g (26 + j * 8 + i))) := HA.out.get _ (by omega)
                      have HLJ := Lib.hid (show cellR g i j = false → mayR g = false from fun h => HL.out (by unfold rowR; rw [allR_false j hlj h, Bool.and_false]))
                      have HCJ := Lib.hid (show cellR g i j = if i < n ∧ j < n ∧ i ≠ j then decide (1 ≤ g (26 + i * 8 + j)) && (decide (g (26 + i * 8 + j) ≤ 255) && g (26 + i * 8 + j) == g (26 + j * 8 + i)) else g (26 + i * 8 + j) == 0 by
                        unfold cellR; rw [HN.out]; by_cases q : i < n ∧ j < n ∧ i ≠ j
                        · rw [if_pos q, if_pos ⟨by omega, by omega, q.2.2⟩]
                        · rw [if_neg q, if_neg (by omega)])
                      generalize g (26 + i * 8 + j) = d at ad HCJ
                      generalize g (26 + j * 8 + i) = e at ae HCJ
                      have ij : (j : Int) < 8 := by omega
                      by_cases hjn : j < n
                      · have g1 : decide (n ≤ j) = false := by simp; omega
                        by_cases hij : j = i
                        · subst hij
                          clear ae
                          have HCZ := Lib.hid (show cellR g j j = (d == 0) by rw [HCJ.out, if_neg (by omega)])
                          by_cases hd : d = 0
                          · subst hd
                            have HT := Lib.hid (show cellR g j j = true by rw [HCZ.out]; rfl)
                            skip
                            go_wp2_with (fail)
                            go_roundw
                            case rel => exact ⟨j + 1, hlj, by go_num, Lib.hid (fun l h => by
                              by_cases e : l = j
                              · subst e; exact HT.out
                              · exact HJ.out l (by omega)), _, rfl⟩
                            case measure => simp [intOf]; omega
                          · have d9 : (d != 0) = true := by simpa using hd
                            have HF := Lib.hid (HLJ.out (by rw [HCZ.out]; simpa using hd))
                            clear hd
                            skip
                            go_wp2_with (fail)
                            go_ret
                            exact ⟨by rw [HF.out]; rfl, below_drewN ((Below.refl _ _).alloc (Nat.le_refl _) _) _⟩
                        · have hij : ¬ i = j := fun h => hij h.symm
                          have g2 : (i == j) = false := by simpa using hij
                          have g3 : ((i : Int) == (j : Int)) = false := by simp; omega
                          have g4 : (i != j) = true := by simpa using hij
                          have g5 : ((i : Int) != (j : Int)) = true := by simp; omega
                          have HCK := Lib.hid (show cellR g i j = (decide (1 ≤ d) && (decide (d ≤ 255) && d == e)) by rw [HCJ.out, if_pos ⟨hin, hjn, hij⟩])
                          clear hij
                          by_cases q1 : d < 1
                          · have HF := Lib.hid (HLJ.out (by rw [HCK.out]; simp; omega))
                            go_wp2_with (fail)
                            go_ret
                            exact ⟨by rw [HF.out]; rfl, below_drewN ((Below.refl _ _).alloc (Nat.le_refl _) _) _⟩
                          · have q1' : decide (d < 1) = false := by simpa using q1
                            clear q1
                            by_cases q2 : 255 < d
                            · have HF := Lib.hid (HLJ.out (by rw [HCK.out]; simp; omega))
                              go_wp2_with (fail)
                              go_ret
                              exact ⟨by rw [HF.out]; rfl, below_drewN ((Below.refl _ _).alloc (Nat.le_refl _) _) _⟩
                            · have q2' : decide (255 < d) = false := by simpa using q2
                              clear q2
                              by_cases q3 : d = e
                              · subst q3
                                have HT := Lib.hid (show cellR g i j = true by rw [HCK.out]; simp at q1' q2' ⊢; omega)
                                have q3' : (d != d) = false := by simp
                                go_wp2_with (fail)
                                go_roundw
                                case rel => exact ⟨j + 1, hlj, by go_num, Lib.hid (fun l h => by
                                  by_cases e : l = j
                                  · subst e; exact HT.out
                                  · exact HJ.out l (by omega)), _, rfl⟩
                                case measure => simp [intOf]; omega
                              · have q3' : (d != e) = true := by simpa using q3
                                have HF := Lib.hid (HLJ.out (by rw [HCK.out]; simp; intro _ _; exact q3))
                                clear q3
                                go_wp2_with (fail)
                                go_ret
                                exact ⟨by rw [HF.out]; rfl, below_drewN ((Below.refl _ _).alloc (Nat.le_refl _) _) _⟩
                      · have g1 : n ≤ j := by omega
                        have g2 : decide (j < n) = false := by simp; omega
                        by_cases hd : d = 0
                        · subst hd
                          have HT := Lib.hid (show cellR g i j = true by rw [HCJ.out, if_neg (by omega)]; rfl)
                          skip
                          go_wp2_with (fail)
                          go_roundw
                          case rel => exact ⟨j + 1, hlj, by go_num, Lib.hid (fun l h => by
                            by_cases e : l = j
                            · subst e; exact HT.out
                            · exact HJ.out l (by omega)), _, rfl⟩
                          case measure => simp [intOf]; omega
                        · have d9 : (d != 0) = true := by simpa using hd
                          have HF := Lib.hid (HLJ.out (by rw [HCJ.out, if_neg (by omega)]; simpa using hd))
                          clear hd
                          skip
                          go_wp2_with (fail)
                          go_ret
                          exact ⟨by rw [HF.out]; rfl, below_drewN ((Below.refl _ _).alloc (Nat.le_refl _) _) _⟩
                    · have HT := Lib.hid (show rowR g i = true by unfold rowR; rw [HFR.out, allR_true (fun l h => HJ.out l (by omega))]; rfl)
                      go_wp2_with (fail)
                      go_roundw
                      case rel => exact ⟨i + 1, hlt, by go_num, Lib.hid (fun l h => by
                        by_cases e : l = i
                        · subst e; exact HT.out
                        · exact HK.out l (by omega)), _, rfl⟩
                      case measure => simp [intOf]; omega
          · have hin' : decide (i < n) = false := by simp; omega
            have HF2 := Lib.hid (show frameR g i = (f == 0) by rw [HF1.out, if_neg (by rw [HN.out]; omega)])
            by_cases q1 : f = 0
            · subst q1
              have HFR := Lib.hid (show frameR g i = true by rw [HF2.out]; rfl)
              go_wp2_with (fail)
              go_quiet (fail)
              go_wp2_with (fail)
              clear af
              go_loopw [6, 7] (fun x _ wr => ∃ j : Nat, j ≤ 8 ∧ x = .int .i64 j ∧ Hid (∀ l, l < j → cellR g i l = true) ∧ ∃ m, wr = (w.alloc (.cells A 26)).drewN m) (fun x _ _ => 8 - (intOf x).toNat)
              case atStart => exact ⟨0, Nat.zero_le _, rfl, Lib.hid (fun i h => absurd h (Nat.not_lt_zero _)), _, World.drewN_drewN _ _ _⟩
              case round =>
                obtain ⟨j, hj, rfl, HJ, m2, rfl⟩ := hrel
                by_cases hlj : j < 8
                · have ad : A[26 + i * 8 + j]? = some (.int .i64 (g (26 + i * 8 + j))) := HA.out.get _ (by omega)
                  have ae : A[26 + j * 8 + i]? = some (.int .i64 (g (26 + j * 8 + i))) := HA.out.get _ (by omega)
                  have HLJ := Lib.hid (show cellR g i j = false → mayR g = false from fun h => HL.out (by unfold rowR; rw [allR_false j hlj h, Bool.and_false]))
                  have HCJ := Lib.hid (show cellR g i j = if i < n ∧ j < n ∧ i ≠ j then decide (1 ≤ g (26 + i * 8 + j)) && (decide (g (26 + i * 8 + j) ≤ 255) && g (26 + i * 8 + j) == g (26 + j * 8 + i)) else g (26 + i * 8 + j) == 0 by
                    unfold cellR; rw [HN.out]; by_cases q : i < n ∧ j < n ∧ i ≠ j
                    · rw [if_pos q, if_pos ⟨by omega, by omega, q.2.2⟩]
                    · rw [if_neg q, if_neg (by omega)])
                  generalize g (26 + i * 8 + j) = d at ad HCJ
                  generalize g (26 + j * 8 + i) = e at ae HCJ
                  have ij : (j : Int) < 8 := by omega
                  by_cases hd : d = 0
                  · subst hd
                    have HT := Lib.hid (show cellR g i j = true by rw [HCJ.out, if_neg (by omega)]; rfl)
                    skip
                    go_wp2_with (fail)
                    go_roundw
                    case rel => exact ⟨j + 1, hlj, by go_num, Lib.hid (fun l h => by
                      by_cases e : l = j
                      · subst e; exact HT.out
                      · exact HJ.out l (by omega)), _, rfl⟩
                    case measure => simp [intOf]; omega
                  · have d9 : (d != 0) = true := by simpa using hd
                    have HF := Lib.hid (HLJ.out (by rw [HCJ.out, if_neg (by omega)]; simpa using hd))
                    clear hd
                    skip
                    go_wp2_with (fail)
                    go_ret
                    exact ⟨by rw [HF.out]; rfl, below_drewN ((Below.refl _ _).alloc (Nat.le_refl _) _) _⟩
                · have HT := Lib.hid (show rowR g i = true by unfold rowR; rw [HFR.out, allR_true (fun l h => HJ.out l (by omega))]; rfl)
                  go_wp2_with (fail)
                  go_roundw
                  case rel => exact ⟨i + 1, hlt, by go_num, Lib.hid (fun l h => by
                    by_cases e : l = i
                    · subst e; exact HT.out
                    · exact HK.out l (by omega)), _, rfl⟩
                  case measure => simp [intOf]; omega
            · have q1' : (f != 0) = true := by simpa using q1
              have HF := Lib.hid (HL.out (by unfold rowR; rw [HF2.out]; simp; intro h; exact absurd h q1))
              clear q1
              go_wp2_with (fail)
              go_quiet (fail)
              go_wp2_with (fail)
              go_ret
              exact ⟨by rw [HF.out]; rfl, below_drewN (below_drewN ((Below.refl _ _).alloc (Nat.le_refl _) _) _) _⟩
        · have HM3 := Lib.hid (show mayR g = tailR g by rw [HM2.out, allR_true (fun l h => HK.out l (by omega)), Bool.true_and])
          have a91 : A[91]? = some (.int .i64 (g 91)) := HA.out.get 91 (by decide)
          have a92 : A[92]? = some (.int .i64 (g 92)) := HA.out.get 92 (by decide)
          have HT := Lib.hid (show tailR g = (decide (0 ≤ g 91) && (decide (g 91 ≤ g 92) && decide (g 92 ≤ g 93))) from rfl)
          generalize g 91 = x at a91 HT
          generalize g 92 = y at a92 HT
          generalize g 93 = v at a93 HT
          have hcs : x < 0 ∨ (0 ≤ x ∧ y < x) ∨ (0 ≤ x ∧ x ≤ y ∧ v < y) ∨ (0 ≤ x ∧ x ≤ y ∧ y ≤ v) := by omega
          rcases hcs with h1 | ⟨h1, h2⟩ | ⟨h1, h2, h3⟩ | ⟨h1, h2, h3⟩
          · have HF := Lib.hid (show mayR g = false by rw [HM3.out, HT.out]; simp; omega)
            go_wp2_with (fail)
            go_ret
            exact ⟨by rw [HF.out]; rfl, below_drewN ((Below.refl _ _).alloc (Nat.le_refl _) _) _⟩
          · have HF := Lib.hid (show mayR g = false by rw [HM3.out, HT.out]; simp; omega)
            go_wp2_with (fail)
            go_ret
            exact ⟨by rw [HF.out]; rfl, below_drewN ((Below.refl _ _).alloc (Nat.le_refl _) _) _⟩
          · have HF := Lib.hid (show mayR g = false by rw [HM3.out, HT.out]; simp; omega)
            go_wp2_with (fail)
            go_ret
            exact ⟨by rw [HF.out]; show Ending.returned (Value.bool (decide (y ≤ v))) = _; rw [decide_eq_false (by omega)], below_drewN ((Below.refl _ _).alloc (Nat.le_refl _) _) _⟩
          · have HF := Lib.hid (show mayR g = true by rw [HM3.out, HT.out]; simp; omega)
            go_wp2_with (fail)
            go_ret
            exact ⟨by rw [HF.out]; rfl, below_drewN ((Below.refl _ _).alloc (Nat.le_refl _) _) _⟩

set_option maxRecDepth 100000 in
theorem refmay_any (A : Array Value) (g : Nat → Int) (w : World) (hA : Cfg A g) :
    Calls Try.prog 14 #[.agg A] w fun e w' => e = .returned (.bool (mayB g)) ∧ Below w.heap.size w w' := by
  rw [← mayR_eq]
  cases h : headR g with
  | false =>
    have : mayR g = false := by unfold mayR; rw [h, Bool.false_and]
    rw [this]
    exact refmay_head A g w hA h
  | true => exact refmay_body A g w hA h
end Go.Proofs.Ytcbdmdalijhkoaa
