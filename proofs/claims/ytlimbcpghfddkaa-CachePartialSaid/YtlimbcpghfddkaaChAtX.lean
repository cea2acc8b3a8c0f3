/-
  chain: the landed slab: Mark, Give, Take.
-/
import Derived.Test.YtlimbcpghfddkaaChAtW
namespace Go.Proofs.Ytlimbcpghfddkaa
open Go.RowKit Go

section
variable {w w' : World} {C : SC} {S : Sl}
set_option maxRecDepth 100000 in
set_option maxHeartbeats 4000000 in
theorem pmark_any (A : SlAt w C S) (i t : Int) : Calls Try.prog 23 #[.pointer (some ⟨C.s, 0, none⟩), .int .i64 i, .int .u64 t] w (SPost1 SlAt w C (S.mark i t)) := by
  have HK := Lib.hid (pasked_any A.at_ i)
  have HA := Lib.hid A
  cases hh : S.has i with
  | false =>
    have hz : S.mark i t = (2, S) := by unfold Sl.mark; rw [if_pos (.inl hh)]
    rw [hz]
    rw [hh, if_neg (by decide)] at HK
    clear hz A hh
    go_enter Try.func23, Try.ntmps23
    go_wp2_with (fail)
    refine HK.out.mono ?_
    rintro e w1 ⟨rfl, hb⟩
    have HP := Lib.hid (SPost1.same (q := 2) HA.out hb)
    clear hb
    go_wp2_with (fail)
    go_ret
    exact HP.out
  | true =>
    have hi := has_iff.1 hh
    have hn := A.at_.n32
    obtain ⟨k, rfl⟩ : ∃ k : Nat, i = k := ⟨i.toNat, by omega⟩
    have hk32 : (k : Int) < 32 := by omega
    have hkn : k < 32 := by omega
    rw [hh, if_pos rfl] at HK
    have HL := Lib.hid (fun W (h : Below w.heap.size w W) => plive_any (A.at_.later h) k)
    by_cases ht0 : t = 0
    · subst ht0
      have hz : S.mark k 0 = (2, S) := by unfold Sl.mark; rw [if_pos (.inr rfl)]
      rw [hz]
      clear hz A hh hi hn HL
      go_enter Try.func23, Try.ntmps23
      go_wp2_with (fail)
      refine HK.out.mono ?_
      rintro e w1 ⟨rfl, hb⟩
      have HP := Lib.hid (SPost1.same (q := 2) HA.out hb)
      clear hb
      go_wp2_with (fail)
      go_ret
      exact HP.out
    · have ht0b : (t == 0) = false := by simpa using ht0
      cases ho : S.out k with
      | false =>
        have hz : S.mark k t = (7, S) := by unfold Sl.mark; rw [if_neg (by rw [hh]; simp [ht0]), if_pos (by rw [Int.toNat_natCast]; exact ho)]
        rw [hz]
        clear hz A hh hi hn HL ht0
        go_enter Try.func23, Try.ntmps23
        go_wp2_with (fail)
        refine HK.out.mono ?_
        rintro e w1 ⟨rfl, hb⟩
        have co := (HA.out.at_.later hb).co hkn
        rw [ho] at co
        have HP := Lib.hid (SPost1.same (q := 7) HA.out hb)
        clear hb ho
        go_wp2_with (fail)
        go_ret
        exact HP.out
      | true =>
        by_cases ht : S.tu k = 0
        · have hz : S.mark k t = (0, { S with tu := updC S.tu k t }) := by unfold Sl.mark; rw [if_neg (by rw [hh]; simp [ht0]), if_neg (by rw [Int.toNat_natCast, ho]; decide), if_neg (by rw [Int.toNat_natCast]; exact fun h => h ht), Int.toNat_natCast]
          have hl : S.live k = (0, false) := by unfold Sl.live; rw [if_neg (fun h => h.2 (by rw [Int.toNat_natCast]; exact ht))]
          have HI := Lib.hid (show SlI { S with tu := updC S.tu k t } by
            have h := A.inv.mark k t
            rw [hz] at h
            exact h)
          rw [hz]
          rw [hl] at HL
          clear hz hl A hh hi hn ht0
          go_enter Try.func23, Try.ntmps23
          go_wp2_with (fail)
          refine HK.out.mono ?_
          rintro e w1 ⟨rfl, hb⟩
          have HB1 := Lib.hid hb
          have co := (HA.out.at_.later hb).co hkn
          rw [ho] at co
          clear hb ho
          go_wp2_with (fail)
          refine (HL.out w1 HB1.out).mono ?_
          rintro e w2 ⟨rfl, hb⟩
          have HB2 := Lib.hid (HB1.out.trans (hb.mono HB1.out.size))
          clear hb co
          have R2 := HA.out.at_.later HB2.out
          have fr : w2.frozen? ⟨C.s, 37 + k, none⟩ = false := R2.row.frozen _
          have ct := R2.ct hkn
          rw [ht] at ct
          have hs := R2.setTu hkn t
          have HP := Lib.hid (show SPost1 SlAt w C (0, { S with tu := updC S.tu k t }) (.returned (.int .i64 0)) (w2.setCell ⟨C.s, 37 + k, none⟩ (.int .u64 t)) from
            ⟨rfl, HA.out.turned hs.1 HI.out, (Only.of_below HB2.out).trans (hs.2.mono (fun q hq => HA.out.all (.inl hq)))⟩)
          clear hs R2 HL ht
          go_wp2_with (fail)
          go_ret
          exact HP.out
        · have hz : S.mark k t = (8, S) := by unfold Sl.mark; rw [if_neg (by rw [hh]; simp [ht0]), if_neg (by rw [Int.toNat_natCast, ho]; decide), if_pos (by rw [Int.toNat_natCast]; exact ht)]
          have hl : S.live k = (S.tu k, true) := by unfold Sl.live; rw [if_pos ⟨hh, by rw [Int.toNat_natCast]; exact ht⟩, Int.toNat_natCast]
          rw [hz]
          rw [hl] at HL
          clear hz hl A hh hi hn ht0 ht
          go_enter Try.func23, Try.ntmps23
          go_wp2_with (fail)
          refine HK.out.mono ?_
          rintro e w1 ⟨rfl, hb⟩
          have HB1 := Lib.hid hb
          have co := (HA.out.at_.later hb).co hkn
          rw [ho] at co
          clear hb ho
          go_wp2_with (fail)
          refine (HL.out w1 HB1.out).mono ?_
          rintro e w2 ⟨rfl, hb⟩
          have HP := Lib.hid (SPost1.same (q := 8) HA.out (HB1.out.trans (hb.mono HB1.out.size)))
          clear hb co HL
          go_wp2_with (fail)
          go_ret
          exact HP.out
set_option maxRecDepth 100000 in
set_option maxHeartbeats 4000000 in
theorem pgive_any (A : SlAt w C S) (i : Int) : Calls Try.prog 45 #[.pointer (some ⟨C.s, 0, none⟩), .int .i64 i] w (SPost1 SlAt w C (S.give i)) := by
  have HK := Lib.hid (pasked_any A.at_ i)
  have HA := Lib.hid A
  cases hh : S.has i with
  | false =>
    have hz : S.give i = (2, S) := by unfold Sl.give; rw [if_pos hh]
    rw [hz]
    rw [hh, if_neg (by decide)] at HK
    clear hz A hh
    go_enter Try.func45, Try.ntmps45
    go_wp2_with (fail)
    refine HK.out.mono ?_
    rintro e w1 ⟨rfl, hb⟩
    have HP := Lib.hid (SPost1.same (q := 2) HA.out hb)
    clear hb
    go_wp2_with (fail)
    go_ret
    exact HP.out
  | true =>
    have hi := has_iff.1 hh
    have hn := A.at_.n32
    obtain ⟨k, rfl⟩ : ∃ k : Nat, i = k := ⟨i.toNat, by omega⟩
    have hk32 : (k : Int) < 32 := by omega
    have hkn : k < 32 := by omega
    have hkS : k < S.n := by omega
    rw [hh, if_pos rfl] at HK
    have HL := Lib.hid (fun W (h : Below w.heap.size w W) => plive_any (A.at_.later h) k)
    cases ho : S.out k with
    | false =>
      have hz : S.give k = (8, S) := by unfold Sl.give; rw [if_neg (by rw [hh]; decide), if_pos (by rw [Int.toNat_natCast]; exact ho)]
      rw [hz]
      clear hz A hh hi hn HL
      go_enter Try.func45, Try.ntmps45
      go_wp2_with (fail)
      refine HK.out.mono ?_
      rintro e w1 ⟨rfl, hb⟩
      have co := (HA.out.at_.later hb).co hkn
      rw [ho] at co
      have HP := Lib.hid (SPost1.same (q := 8) HA.out hb)
      clear hb ho
      go_wp2_with (fail)
      go_ret
      exact HP.out
    | true =>
      by_cases ht : S.tu k = 0
      · have hz : S.give k = (0, S.given k) := by unfold Sl.give; rw [if_neg (by rw [hh]; decide), if_neg (by rw [Int.toNat_natCast, ho]; decide), if_neg (by rw [Int.toNat_natCast]; exact fun h => h ht), Int.toNat_natCast]
        have hl : S.live k = (0, false) := by unfold Sl.live; rw [if_neg (fun h => h.2 (by rw [Int.toNat_natCast]; exact ht))]
        have HI := Lib.hid (A.inv.given hkS ho ht)
        have hlen := A.inv.len
        have h255 := A.inv.first
        rw [hz]
        rw [hl] at HL
        clear hz hl A hh hi
        go_enter Try.func45, Try.ntmps45
        go_wp2_with (fail)
        refine HK.out.mono ?_
        rintro e w1 ⟨rfl, hb⟩
        have HB1 := Lib.hid hb
        have co := (HA.out.at_.later hb).co hkn
        rw [ho] at co
        clear hb
        go_wp2_with (fail)
        refine (HL.out w1 HB1.out).mono ?_
        rintro e w2 ⟨rfl, hb⟩
        have HB2 := Lib.hid (HB1.out.trans (hb.mono HB1.out.size))
        clear hb co
        have R2 := HA.out.at_.later HB2.out
        have fr : w2.frozen? ⟨C.s, 5 + k, none⟩ = false := R2.row.frozen _
        have co := R2.co hkn
        rw [ho] at co
        have hs := R2.setOut hkn false
        have HS3 := Lib.hid hs.1
        have HO3 := Lib.hid ((Only.of_below (S := C.all) HB2.out).trans (hs.2.mono (fun q hq => HA.out.all (.inl hq))))
        have HKN := Lib.hid hkS
        have HH2 := Lib.hid h255
        have HLN := Lib.hid (show (0 : Int) ≤ (S.ch.length : Nat) ∧ ((S.ch.length : Nat) : Int) ≤ 1000 by omega)
        clear hs R2 HL ht ho h255 hlen hn HK HB1 HB2 hkS
        go_wp2_with (fail)
        generalize w2.setCell ⟨C.s, 5 + k, none⟩ (.bool false) = w3 at *
        refine (plink_any HS3.out HKN.out HH2.out HLN.out).mono ?_
        rintro e w4 ⟨rfl, hR4, ho4⟩
        have HP := Lib.hid (show SPost1 SlAt w C (0, S.given k) (.returned (.int .i64 0)) w4 from
          ⟨rfl, HA.out.turned (show PAt w4 C.s C.b C.bc (S.given k) (k : Nat) ((S.ch.length + 1 : Nat) : Int) by
            have e : ((S.ch.length + 1 : Nat) : Int) = (S.ch.length : Nat) + 1 := by omega
            rw [e]
            exact hR4.ch (k :: S.ch)) HI.out, HO3.out.trans (ho4.mono (fun q hq => HA.out.all hq))⟩)
        clear hR4 ho4
        go_wp2_with (fail)
        go_ret
        exact HP.out
      · have hz : S.give k = (80, S) := by unfold Sl.give; rw [if_neg (by rw [hh]; decide), if_neg (by rw [Int.toNat_natCast, ho]; decide), if_pos (by rw [Int.toNat_natCast]; exact ht)]
        have hl : S.live k = (S.tu k, true) := by unfold Sl.live; rw [if_pos ⟨hh, by rw [Int.toNat_natCast]; exact ht⟩, Int.toNat_natCast]
        rw [hz]
        rw [hl] at HL
        clear hz hl A hh hi hn ht
        go_enter Try.func45, Try.ntmps45
        go_wp2_with (fail)
        refine HK.out.mono ?_
        rintro e w1 ⟨rfl, hb⟩
        have HB1 := Lib.hid hb
        have co := (HA.out.at_.later hb).co hkn
        rw [ho] at co
        clear hb ho
        go_wp2_with (fail)
        refine (HL.out w1 HB1.out).mono ?_
        rintro e w2 ⟨rfl, hb⟩
        have HP := Lib.hid (SPost1.same (q := 80) HA.out (HB1.out.trans (hb.mono HB1.out.size)))
        clear hb co HL
        go_wp2_with (fail)
        go_ret
        exact HP.out
end
end Go.Proofs.Ytlimbcpghfddkaa
