/-
  buddy: the next free block.
-/
import Derived.Test.YtilcdnkjfbkpnaaBuTake
namespace Go.Proofs.Ytilcdnkjfbkpnaa
open Go.RowKit Go

section
variable {w : World} {d n : Nat} {mb : Nat → Nat} {tb : Nat} {L T : List (Int × Int)}
/-- What next answers: the j-th block. -/
def nextV (L : List (Int × Int)) (j : Nat) : Value := if h : j < L.length then .tuple #[.agg #[.int .i64 L[j].1, .int .i64 L[j].2], .bool true] else .tuple #[.agg #[.int .i64 0, .int .i64 0], .bool false]
theorem Inv.at_one (I : Inv n L T) {x o p : Int} (h1 : (x, o) ∈ L) (h2 : (x, p) ∈ L) : o = p := by
  have := I.ris.inj h1 h2 rfl
  injection this
set_option maxRecDepth 100000 in
set_option maxHeartbeats 2000000 in
theorem next_any (N : NodeAt w d n mb tb L T) (I : Inv n L T) {i j : Nat} (hi : i ≤ 200) (h1 : ∀ k, ∀ hk : k < L.length, k < j → L[k].1 < (i : Int)) (h2 : ∀ hj : j < L.length, (i : Int) ≤ L[j].1) :
    Calls Try.prog 37 #[.pointer (some ⟨d, 0, none⟩), .int .i64 i] w fun e w' => e = .returned (nextV L j) ∧ Below w.heap.size w w' := by
  have HN0 := Lib.hid (N.later ((Below.refl _ w).alloc (Nat.le_refl _) (.cells #[.int .i64 0, .int .i64 0] 42)))
  have HB0 := Lib.hid ((Below.refl w.heap.size w).alloc (Nat.le_refl _) (.cells #[.int .i64 0, .int .i64 0] 42))
  have HX0 := Lib.hid (block_row w 0 0)
  have H1 := Lib.hid h1
  have H2 := Lib.hid h2
  have hn2 := I.n2
  clear h1 h2 N
  go_enter Try.func37, Try.ntmps37
  go_wp2_with (fail)
  generalize hBB : w.heap.size = B at *
  generalize w.alloc (.cells #[.int .i64 0, .int .i64 0] 42) = w1 at *
  have HW := Lib.hid hBB
  clear hBB
  go_loopw [6] (fun h wr => ∃ a : Nat, h = .int .i64 a ∧ i ≤ a ∧ a ≤ 328 ∧ Hid (∀ p ∈ L, (i : Int) ≤ p.1 → (a : Int) ≤ p.1) ∧ NodeAt wr d n mb tb L T ∧ RowAt wr B 2 (blkV 0 0) ∧ Below B w wr) (fun h _ => n - (intOf h).toNat)
  case atStart => exact ⟨i, rfl, Nat.le_refl _, by omega, fun p _ h => h, HN0.out, HX0.out, HB0.out⟩
  case round =>
    clear HN0 HB0 HX0
    obtain ⟨a, rfl, hia, ha3, HM, hN, hX, hB⟩ := hrel
    have HN := Lib.hid hN
    have HX := Lib.hid hX
    have HB := Lib.hid hB
    clear hN hX hB
    by_cases hlt : a < n
    · go_wp2_with (fail)
      refine (frames_any HN.out).mono ?_
      rintro e w' ⟨rfl, rfl⟩
      go_wp2_with (fail)
      go_loopw [7] (fun h wr => ∃ s : Nat, h = .int .i64 s ∧ s ≤ 11 ∧ Hid (∀ t : Nat, t < s → ((a : Int), (t : Int)) ∉ L) ∧ NodeAt wr d n mb tb L T ∧ RowAt wr B 2 (blkV 0 0) ∧ Below B w wr) (fun h _ => 11 - (intOf h).toNat)
      case atStart => exact ⟨0, rfl, by decide, fun t h => absurd h (Nat.not_lt_zero _), HN.out, HX.out, HB.out⟩
      case round =>
        clear HN HX HB
        obtain ⟨s, rfl, hs, HS, hN, hX, hB⟩ := hrel
        have HN := Lib.hid hN
        have HX := Lib.hid hX
        have HB := Lib.hid hB
        clear hN hX hB
        by_cases hs2 : s ≤ 10
        · obtain ⟨p, hp⟩ : ∃ p, 2 ^ s = p := ⟨_, rfl⟩
          have hp2 := two_pow_small hs2
          rw [hp] at hp2
          obtain ⟨p1, p2⟩ := hp2
          have HP := Lib.hid hp
          have em : ((a : Int) % (p : Int)) = ((a % p : Nat) : Int) := (Int.natCast_emod a p).symm
          have hs3 : (s : Int) ≤ 10 := by omega
          by_cases c1 : a % p = 0
          · have em2 : ((a : Int) % (p : Int) == 0) = true := by rw [em, c1]; rfl
            clear em hp c1
            by_cases hc : ((a : Int), (s : Int)) ∈ L
            · have HH := Lib.hid (show (frL L s (a : Int)).isSome = true from frL_some.2 hc)
              have HV := Lib.hid (show nextV L j = .tuple #[.agg #[.int .i64 a, .int .i64 s], .bool true] by
                obtain ⟨k, hk, e⟩ := List.mem_iff_getElem.1 hc
                have hjk : k = j := by
                  by_cases h1 : k < j
                  · have := H1.out k hk h1
                    rw [e] at this
                    have : (a : Int) < (i : Int) := this
                    omega
                  · by_cases h2 : j < k
                    · exfalso
                      have hj : j < L.length := by omega
                      have h3 := H2.out hj
                      have h4 := HM.out _ (List.getElem_mem hj) h3
                      have h5 := List.pairwise_iff_getElem.1 I.ris j k hj hk h2
                      rw [e] at h5
                      have h5 : L[j].1 < (a : Int) := h5
                      omega
                    · omega
                subst hjk
                unfold nextV
                rw [dif_pos hk, e])
              clear hc
              go_wp2_with (fail)
              refine (size_of (k := s) rfl hs2 HP.out _).mono ?_
              rintro e w' ⟨rfl, rfl⟩
              go_wp2_with (fail)
              refine (has_any HN.out s (by omega) a (by omega)).mono ?_
              rintro e w2 ⟨rfl, hb2⟩
              rw [HH.out]
              have HX2 := Lib.hid (HX.out.later hb2)
              have HB2 := Lib.hid (HB.out.trans (hb2.mono (by have := HB.out.size; have := HW.out; omega)))
              have b0 : w2.cell? ⟨B, 0, none⟩ = some (.int .i64 0) := HX2.out.cell 0 (by decide)
              have b1 : w2.cell? ⟨B, 1, none⟩ = some (.int .i64 0) := HX2.out.cell 1 (by decide)
              have f0 := HX2.out.frozen 0
              have f1 := HX2.out.frozen 1
              have HX4 := Lib.hid (set_block HX2.out a s)
              have HF := Lib.hid (show (Ending.returned (.tuple #[.agg #[.int .i64 a, .int .i64 s], .bool true]) = .returned (nextV L j)) ∧ Below B w ((w2.setCell ⟨B, 0, none⟩ (.int .i64 a)).setCell ⟨B, 1, none⟩ (.int .i64 s)) from
                ⟨by rw [HV.out], (HB2.out.setCell (p := ⟨B, 0, none⟩) (Nat.le_refl _) _).setCell (p := ⟨B, 1, none⟩) (Nat.le_refl _) _⟩)
              clear hb2 HN HX HB HX2 HB2 HV
              go_wp2_with (fail)
              exact ret_block (b := .bool true) rfl rfl rfl rfl HX4.out (by rw [HW.out]; exact HF.out)
            · have HH := Lib.hid (show (frL L s (a : Int)).isSome = false by
                cases h : (frL L s (a : Int)).isSome with
                | false => rfl
                | true => exact absurd (frL_some.1 h) hc)
              have HS2 := Lib.hid (show ∀ t : Nat, t < s + 1 → ((a : Int), (t : Int)) ∉ L from fun t ht => by
                by_cases e : t = s
                · subst e; exact hc
                · exact HS.out t (by omega))
              clear hc HS
              go_wp2_with (fail)
              refine (size_of (k := s) rfl hs2 HP.out _).mono ?_
              rintro e w' ⟨rfl, rfl⟩
              go_wp2_with (fail)
              refine (has_any HN.out s (by omega) a (by omega)).mono ?_
              rintro e w2 ⟨rfl, hb2⟩
              rw [HH.out]
              have HN2 := Lib.hid (HN.out.later hb2)
              have HX2 := Lib.hid (HX.out.later hb2)
              have HB2 := Lib.hid (HB.out.trans (hb2.mono (by have := HB.out.size; have := HW.out; omega)))
              clear hb2 HN HX HB
              go_wp2_with (fail)
              go_roundw
              case rel => exact ⟨s + 1, by go_num, by omega, HS2, HN2.out, HX2.out, HB2.out⟩
              case measure => simp [intOf]; omega
          · have em2 : ((a : Int) % (p : Int) == 0) = false := by
              rw [em]
              simpa using (show ((a % p : Nat) : Int) ≠ 0 by omega)
            have HM2 := Lib.hid (show ∀ p ∈ L, (i : Int) ≤ p.1 → ((a + 1 : Nat) : Int) ≤ p.1 from fun q hq h => by
              have h3 := HM.out q hq h
              obtain ⟨b, o, rfl⟩ := I.nat q hq
              have h3 : (a : Int) ≤ (b : Int) := h3
              show ((a + 1 : Nat) : Int) ≤ (b : Int)
              by_cases e : b = a
              · exfalso
                subst e
                have hal := (I.stk.al o b (.inl hq)).2.1
                by_cases ho : o < s
                · exact HS.out o ho hq
                · have := al_down (show s ≤ o by omega) hal
                  rw [hp] at this
                  exact c1 this
              · omega)
            clear em hp c1 HM HS
            go_wp2_with (fail)
            refine (size_of (k := s) rfl hs2 HP.out _).mono ?_
            rintro e w' ⟨rfl, rfl⟩
            go_wp2_with (fail)
            go_roundw
            case rel => exact ⟨a + 1, by go_num, by omega, by omega, HM2, HN.out, HX.out, HB.out⟩
            case measure => simp [intOf]; omega
        · obtain rfl : s = 11 := by omega
          rw [show ((11 : Nat) : Int) = 11 from rfl]
          have HM2 := Lib.hid (show ∀ p ∈ L, (i : Int) ≤ p.1 → ((a + 1 : Nat) : Int) ≤ p.1 from fun q hq h => by
            have h3 := HM.out q hq h
            obtain ⟨b, o, rfl⟩ := I.nat q hq
            have h3 : (a : Int) ≤ (b : Int) := h3
            show ((a + 1 : Nat) : Int) ≤ (b : Int)
            by_cases e : b = a
            · exfalso
              subst e
              have hal := (I.stk.al o b (.inl hq)).1
              exact HS.out o (by omega) hq
            · omega)
          clear HM HS
          go_wp2_with (fail)
          go_roundw
          case rel => exact ⟨a + 1, by go_num, by omega, by omega, HM2, HN.out, HX.out, HB.out⟩
          case measure => simp [intOf]; omega
    · have HV := Lib.hid (show nextV L j = .tuple #[.agg #[.int .i64 0, .int .i64 0], .bool false] by
        have hj : ¬ j < L.length := fun hj => by
          have h3 := HM.out _ (List.getElem_mem hj) (H2.out hj)
          obtain ⟨b, o, e⟩ := I.nat _ (List.getElem_mem hj)
          have h4 := (I.stk.al o b (.inl (by show ((b : Int), (o : Int)) ∈ L; rw [← e]; exact List.getElem_mem hj))).2.2
          have hpp := Nat.one_le_two_pow (n := o)
          rw [e] at h3
          have h3 : (a : Int) ≤ (b : Int) := h3
          omega
        unfold nextV
        rw [dif_neg hj])
      have b0 : wr.cell? ⟨B, 0, none⟩ = some (.int .i64 0) := HX.out.cell 0 (by decide)
      have b1 : wr.cell? ⟨B, 1, none⟩ = some (.int .i64 0) := HX.out.cell 1 (by decide)
      have f0 := HX.out.frozen 0
      have f1 := HX.out.frozen 1
      have HX4 := Lib.hid (set_block HX.out 0 0)
      have HF := Lib.hid (show (Ending.returned (.tuple #[.agg #[.int .i64 0, .int .i64 0], .bool false]) = .returned (nextV L j)) ∧ Below B w ((wr.setCell ⟨B, 0, none⟩ (.int .i64 0)).setCell ⟨B, 1, none⟩ (.int .i64 0)) from
        ⟨by rw [HV.out], (HB.out.setCell (p := ⟨B, 0, none⟩) (Nat.le_refl _) _).setCell (p := ⟨B, 1, none⟩) (Nat.le_refl _) _⟩)
      clear HM HV HB HX
      go_wp2_with (fail)
      refine (frames_any HN.out).mono ?_
      rintro e w' ⟨rfl, rfl⟩
      go_wp2_with (fail)
      exact ret_block (b := .bool false) rfl rfl rfl rfl HX4.out (by rw [HW.out]; exact HF.out)
end
end Go.Proofs.Ytilcdnkjfbkpnaa
