/-
  The walk of ChainFits: it returns true, and below the old heap nothing has turned.
-/
import Derived.Test.YtifiecfkcikdmaaChKnown
namespace Go.Proofs.Ytifiecfkcikdmaa
open Go.RowKit Go

theorem fits_q {sz co : Nat} (h : mayC sz co = true) : (256 - co) / sz = 256 / sz ∧ 256 / sz * sz + 256 % sz = 256 := by
  obtain ⟨h1, _, _, _, h5, h6⟩ := may_parts h
  have e1 := Nat.div_add_mod 256 sz
  have e2 := Nat.mod_lt 256 (show 0 < sz by omega)
  rw [Nat.mul_comm] at e1
  refine ⟨?_, e1⟩
  have e3 : 256 - co = (256 % sz - co) + 256 / sz * sz := by omega
  rw [e3, Nat.add_mul_div_right _ _ (by omega), Nat.div_eq_of_lt (by omega), Nat.zero_add]
theorem may_next {sz co : Nat} (h : mayC sz co = true) : mayC sz ((co : Int) + 8) = decide (co + 256 / sz * sz + 8 ≤ 256) := by
  obtain ⟨h1, h2, h3, h4, h5, h6⟩ := may_parts h
  obtain ⟨_, e1⟩ := fits_q h
  have h7 : (256 : Int) % (sz : Int) = ((256 % sz : Nat) : Int) := by simp
  unfold mayC
  congr 1
  rw [h7]
  refine propext ⟨fun ⟨_, _, _, _, _, h⟩ => by omega, fun h => ⟨by omega, by omega, by omega, by omega, by omega, by omega⟩⟩
theorem new_n (sz co : Nat) (f : Nat → UInt8) : (Sl.new sz co f).n = (256 - co) / sz := rfl
section
variable {SlAt : World → SC → Sl → Prop}
theorem STold.ends {w W W' : World} {B : Nat} {v : Value} {e : Ending} (hb : Below B w W) (hle : B ≤ W.heap.size) (h : STold W v e W') : e = .returned v ∧ Below B w W' := ⟨h.1, hb.trans (h.2.mono hle)⟩
set_option maxRecDepth 100000 in
set_option maxHeartbeats 4000000 in
theorem lawCFits_any (K : ChainOk SlAt) (size colour : Int) (w : World) :
    Calls Try.prog 8 #[.int .i64 size, .int .i64 colour] w fun e w' => e = .returned (.bool true) ∧ Below w.heap.size w w' := by
  obtain ⟨Z, hZ, hmk⟩ := make_bytes
  have HK := Lib.hid K
  have HZ := Lib.hid hZ
  have HMK := Lib.hid hmk
  have HZR := Lib.hid (RowAt.new w Z 5 256 _ hZ)
  have HB1 := Lib.hid ((Below.refl w.heap.size w).alloc (Nat.le_refl _) (.cells Z 5))
  clear K hZ
  by_cases hm : mayC size colour = true
  · have hm' := hm
    unfold mayC at hm'
    obtain ⟨m1, m2, m3, m4, m5, m6⟩ := of_decide_eq_true hm'
    obtain ⟨sz, rfl⟩ : ∃ sz : Nat, size = sz := ⟨size.toNat, by omega⟩
    obtain ⟨co, rfl⟩ : ∃ co : Nat, colour = co := ⟨colour.toNat, by omega⟩
    have HM := Lib.hid hm
    obtain ⟨p1, p2, p3, p4, p5, p6⟩ := may_parts hm
    obtain ⟨q1, q2⟩ := fits_q hm
    obtain ⟨n32, n1, nfit, _⟩ := cnt_le hm
    have hnx := may_next hm
    obtain ⟨n, hn⟩ : ∃ n, 256 / sz = n := ⟨_, rfl⟩
    rw [hn] at q1 hnx
    rw [q1] at n32 n1 nfit
    have hq : (256 : Int) / (sz : Int) = (n : Int) := by rw [← hn, Int.natCast_ediv]; rfl
    obtain ⟨m, hmn⟩ : ∃ m, (n - 1) * sz = m := ⟨_, rfl⟩
    have hmI : ((n : Int) - 1) * (sz : Int) = (m : Int) := by rw [← hmn, Int.natCast_mul, Int.natCast_sub n1]; rfl
    have hms : n * sz = m + sz := by
      obtain ⟨k, rfl⟩ : ∃ k, n = k + 1 := ⟨n - 1, by omega⟩
      rw [Nat.add_sub_cancel] at hmn
      rw [Nat.add_mul, hmn]
      omega
    rw [hms] at nfit hnx
    have hcm : (co : Int) + (m : Int) + (sz : Int) ≤ 256 := by omega
    have HNX := Lib.hid hnx
    have HQ1 := Lib.hid q1
    have HQ := Lib.hid hq
    clear hm hm' m1 m2 m3 m4 m5 m6 q1 q2 hnx hn hmn hms nfit hq
    go_enter Try.func8, Try.ntmps8
    go_wp2_with (fail)
    clear hmk
    generalize w.alloc (.cells Z 5) = w1 at *
    refine (HK.out.new sz co w.heap.size 256 _ w1 HM.out (Nat.le_refl _) HZR.out).mono ?_
    intro e w2 hN
    obtain ⟨C, rfl, hCb, _, hL, _, _⟩ := LAt.new HB1.out HB1.out.size (Nat.le_refl _) hN
    obtain ⟨S0, hS0⟩ : ∃ S0, Sl.new sz co (fun _ => 0) = S0 := ⟨_, rfl⟩
    have hSn : S0.n = n := by rw [← hS0, new_n]; exact HQ1.out
    have hSz : S0.sz = sz := by rw [← hS0]; rfl
    have hSc : S0.co = co := by rw [← hS0]; rfl
    rw [hS0] at hL
    have HL := Lib.hid hL
    have hpl : S0.place ((n : Int) - 1) = ((co : Int) + (m : Int), (co : Int) + (m : Int) + (sz : Int)) := by
      unfold Sl.place Sl.pos
      rw [if_pos (has_iff.2 (by rw [hSn]; omega)), hSz, hSc, show ((n : Int) - 1).toNat = n - 1 by omega, ← hmI]
      rw [Int.natCast_add, Int.natCast_mul, Int.natCast_sub n1]
      rfl
    have HPL := Lib.hid hpl
    have HSN := Lib.hid hSn
    have HSZ := Lib.hid hSz
    have HSC := Lib.hid hSc
    clear hN hL hS0 hpl hSn hSz hSc
    go_wp2_with (fail)
    refine (HK.out.count HL.out.at_).mono ?_
    rintro e w3 ⟨rfl, hb⟩
    rw [HSN.out]
    have HL3 := Lib.hid (HL.out.later HK.out hb)
    clear hb HL
    go_wp2_with (fail)
    refine (HK.out.place _ HL3.out.at_).mono ?_
    rintro e w4 ⟨rfl, hb⟩
    rw [HPL.out]
    have HL4 := Lib.hid (HL3.out.later HK.out hb)
    clear hb HL3
    have hq := HQ.out
    go_wp2_with (fail)
    refine (HK.out.size HL4.out.at_).mono ?_
    rintro e w5 ⟨rfl, hb⟩
    rw [HSZ.out]
    have HL5 := Lib.hid (HL4.out.later HK.out hb)
    clear hb HL4
    go_wp2_with (fail)
    refine (HK.out.colour HL5.out.at_).mono ?_
    rintro e w6 ⟨rfl, hb⟩
    rw [HSC.out]
    have HL6 := Lib.hid (HL5.out.later HK.out hb)
    have HB6 := Lib.hid (HL6.out.bel)
    have HZ6 := Lib.hid (RowAt.new w6 Z 5 256 _ HZ.out)
    have HB7 := Lib.hid (HL6.out.ends ((Below.refl w6.heap.size w6).alloc (Nat.le_refl _) (.cells Z 5)))
    have hs7 : (w6.alloc (.cells Z 5)).heap.size = w6.heap.size + 1 := by simp
    have hle6 := HL6.out.le
    clear hb HL5
    have hmk := HMK.out
    by_cases hf : co + (m + sz) + 8 ≤ 256
    · have hfI : (co : Int) + (m : Int) + (sz : Int) + 8 ≤ 256 := by omega
      have HM2 := Lib.hid (show mayC sz ((co + 8 : Nat) : Int) = true by rw [Int.natCast_add]; exact HNX.out.trans (decide_eq_true hf))
      have hfd : decide ((co : Int) + (m : Int) + (sz : Int) + 8 ≤ 256) = true := decide_eq_true hfI
      go_wp2_with (fail)
      clear hmk
      generalize w6.alloc (.cells Z 5) = w7 at *
      rw [show (co : Int) + 8 = ((co + 8 : Nat) : Int) by omega]
      refine (HK.out.new sz (co + 8) w6.heap.size 256 _ w7 HM2.out (Nat.le_refl _) HZ6.out).mono ?_
      rintro e w8 ⟨C2, rfl, _, _, _, ho8, _⟩
      have HB8 := Lib.hid (ho8.below HB7.out (by omega) (fun k hk => by omega))
      have hs8 := ho8.size
      clear ho8
      go_wp2_with (fail)
      refine (cknown_any HK.out w8).mono ?_
      rintro e w9 ⟨rfl, hb⟩
      have HB9 := Lib.hid (HB8.out.trans (hb.mono (by omega)))
      clear hb
      go_wp2_with (fail)
      go_ret
      exact ⟨rfl, HB9.out⟩
    · have hfI : ¬ (co : Int) + (m : Int) + (sz : Int) + 8 ≤ 256 := by omega
      have hfd : decide ((co : Int) + (m : Int) + (sz : Int) + 8 ≤ 256) = false := decide_eq_false hfI
      have HM2 := Lib.hid (show mayC sz ((co : Int) + 8) = false from HNX.out.trans (decide_eq_false hf))
      go_wp2_with (fail)
      clear hmk
      generalize w6.alloc (.cells Z 5) = w7 at *
      refine (HK.out.newNo _ _ _ sz ((co : Int) + 8) w7 (.inr HM2.out)).mono ?_
      rintro e w8 ⟨rfl, hb8⟩
      have HB8 := Lib.hid (HB7.out.trans (hb8.mono (by omega)))
      have hs8 := hb8.size
      clear hb8
      go_wp2_with (fail)
      refine (cknown_any HK.out w8).mono ?_
      rintro e w9 ⟨rfl, hb⟩
      have HB9 := Lib.hid (HB8.out.trans (hb.mono (by omega)))
      clear hb
      go_wp2_with (fail)
      go_ret
      exact ⟨rfl, HB9.out⟩
  · have HM := Lib.hid (show mayC size colour = false by simpa using hm)
    clear hm
    go_enter Try.func8, Try.ntmps8
    go_wp2_with (fail)
    clear hmk
    generalize w.alloc (.cells Z 5) = w1 at *
    refine (HK.out.newNo _ _ _ size colour w1 (.inr HM.out)).mono ?_
    rintro e w2 ⟨rfl, hb⟩
    have HB2 := Lib.hid (HB1.out.trans (hb.mono HB1.out.size))
    clear hb
    go_wp2_with (fail)
    refine (cknown_any HK.out w2).mono ?_
    rintro e w3 ⟨rfl, hb⟩
    have HB3 := Lib.hid (HB2.out.trans (hb.mono HB2.out.size))
    clear hb
    go_wp2_with (fail)
    go_ret
    exact ⟨rfl, HB3.out⟩
end
end Go.Proofs.Ytifiecfkcikdmaa
