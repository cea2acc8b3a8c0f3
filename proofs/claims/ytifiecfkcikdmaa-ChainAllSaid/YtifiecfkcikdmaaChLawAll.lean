/-
  The walk of ChainAll: it returns true, and below the old heap nothing has turned.
-/
import Derived.Test.YtifiecfkcikdmaaChKnown
import Derived.Test.YtifiecfkcikdmaaChTk
import Derived.Test.YtifiecfkcikdmaaLexApp
namespace Go.Proofs.Ytifiecfkcikdmaa
open Go.RowKit Go

theorem natV_snoc (l : List Nat) (k : Nat) : natV (l ++ [k]) = natV l ++ (#[Value.int .i64 (k : Int)] : Array Value).toList := by
  unfold natV
  rw [List.map_append]
  rfl
section
variable {SlAt : World → SC → Sl → Prop}
set_option maxRecDepth 100000 in
set_option maxHeartbeats 8000000 in
theorem lawCAll_any (K : ChainOk SlAt) (size colour turn : Int) (w : World) :
    Calls Try.prog 4 #[.int .i64 size, .int .i64 colour, .int .i64 turn] w fun e w' => e = .returned (.bool true) ∧ Below w.heap.size w w' := by
  obtain ⟨Z, hZ, hmk⟩ := make_bytes
  have HK := Lib.hid K
  have HZR := Lib.hid (RowAt.new w Z 5 256 _ hZ)
  have HB1 := Lib.hid ((Below.refl w.heap.size w).alloc (Nat.le_refl _) (.cells Z 5))
  clear K hZ
  by_cases hm : mayC size colour = true
  · have hm' := hm
    unfold mayC at hm'
    obtain ⟨m1, m2, m3, m4, m5, m6⟩ := of_decide_eq_true hm'
    obtain ⟨sz, rfl⟩ : ∃ sz : Nat, size = sz := ⟨size.toNat, by omega⟩
    obtain ⟨co, rfl⟩ : ∃ co : Nat, colour = co := ⟨colour.toNat, by omega⟩
    have HM := Lib.hid hm
    obtain ⟨p1, p2, p3, p4, p5, p6⟩ := may_parts hm
    obtain ⟨n32, n1, nfit, nlast⟩ := cnt_le hm
    obtain ⟨n, hn⟩ : ∃ n, (256 - co) / sz = n := ⟨_, rfl⟩
    rw [hn] at n32 n1 nfit nlast
    obtain ⟨i0, hi, hz0, hz1, hz2⟩ := info_parts intInfoC
    have HN := Lib.hid hn
    have HNL := Lib.hid (And.intro nfit nlast)
    clear hm hm' m1 m2 m3 m4 m5 m6 hn p3 p4 p6 nfit nlast
    go_enter Try.func4, Try.ntmps4
    go_wp2_with (fail)
    clear hmk
    generalize w.alloc (.cells Z 5) = w1 at *
    refine (HK.out.new sz co w.heap.size 256 _ w1 HM.out (Nat.le_refl _) HZR.out).mono ?_
    intro e w2 hN
    obtain ⟨C, rfl, hCb, _, hL, _, _⟩ := LAt.new HB1.out HB1.out.size (Nat.le_refl _) hN
    obtain ⟨S0, hS0⟩ : ∃ S0, Sl.new sz co (fun _ => 0) = S0 := ⟨_, rfl⟩
    have HSN := Lib.hid (show S0.n = n by rw [← hS0]; exact HN.out)
    have HSZ := Lib.hid (show S0.sz = sz by rw [← hS0]; rfl)
    have HSC := Lib.hid (show S0.co = co by rw [← hS0]; rfl)
    have HCH := Lib.hid (show S0.ch = List.range n by rw [← hS0, new_ch, HN.out])
    have HIV := Lib.hid (show SlI S0 by rw [← hS0]; exact SlI.new HM.out _)
    rw [hS0] at hL
    have HL := Lib.hid hL
    clear hN hL hS0 hCb
    go_wp2_with (fail)
    refine (HK.out.count HL.out.at_).mono ?_
    rintro e w3 ⟨rfl, hb⟩
    rw [HSN.out]
    have HL3 := Lib.hid (HL.out.later HK.out hb)
    clear hb HL
    have hnI : ¬ (n : Int) < 1 := by omega
    go_wp2_with (fail)
    refine (HK.out.free HL3.out.at_).mono ?_
    rintro e w4 ⟨rfl, hb⟩
    rw [HCH.out, List.length_range]
    have HL4 := Lib.hid (show LAt SlAt w.heap.size w C (tkI S0 0) w4 from HL3.out.later HK.out hb)
    clear hb HL3
    have hp0 : S0.pos 0 = co := by unfold Sl.pos; rw [HSC.out]; omega
    have HP0 := Lib.hid hp0
    clear hp0
    go_wp2_with (fail)
    go_loopw [52, 11] (fun i l wr => ∃ k : Nat, k ≤ n ∧ i = .int .i64 k ∧ l = .int .i64 (S0.pos k) ∧ Hid (LAt SlAt w.heap.size w C (tkI S0 k) wr)) (fun i _ _ => n - (intOf i).toNat)
    case atStart => exact ⟨0, Nat.zero_le _, rfl, by rw [HP0.out], HL4⟩
    case round =>
      clear HL4
      obtain ⟨k, hk, rfl, rfl, HL⟩ := hrel
      by_cases hlt : k < n
      · have hltI : (k : Int) < (n : Int) := by omega
        have HT := Lib.hid (tkI_take HCH.out hlt)
        have HPL := Lib.hid (tkI_place (S := S0) (k := k + 1) k (by rw [HSN.out]; exact hlt))
        have hfit := HIV.out.fit (i := k) (by rw [HSN.out]; exact hlt)
        have HNX := Lib.hid (show S0.pos (k + 1) = S0.pos k + sz by unfold Sl.pos; rw [Nat.add_mul, HSZ.out]; omega)
        rw [HSZ.out] at HPL hfit
        have HLT := Lib.hid hlt
        clear hlt
        generalize S0.pos k = p at *
        go_wp2_with (fail)
        refine (HK.out.take HL.out.at_).mono ?_
        rintro e w5 ⟨rfl, hA, ho⟩
        rw [HT.out] at hA ⊢
        have HL5 := Lib.hid (HL.out.turn hA ho)
        clear hA ho HL
        go_wp2_with (fail)
        refine (HK.out.place (k : Int) HL5.out.at_).mono ?_
        rintro e w6 ⟨rfl, hb⟩
        rw [HPL.out]
        have HL6 := Lib.hid (HL5.out.later HK.out hb)
        have hpz : ¬ (256 : Int) < (p : Int) + (sz : Int) := by omega
        clear hb HL5
        go_wp2_with (fail)
        go_roundw
        case rel => exact ⟨k + 1, HLT.out, by go_num, by rw [HNX.out]; go_num, HL6⟩
        case measure => simp [intOf]; omega
      · obtain rfl : k = n := by omega
        have hpn : S0.pos k = co + k * sz := by unfold Sl.pos; rw [HSC.out, HSZ.out]
        have hnl := HNL.out
        rw [Nat.add_mul] at hnl
        obtain ⟨m, hmm⟩ : ∃ m, k * sz = m := ⟨_, rfl⟩
        rw [hmm] at hpn hnl
        rw [hpn]
        have hlast : ¬ (sz : Int) ≤ 256 - ((co : Int) + (m : Int)) := by omega
        have hcm : (co : Int) + (m : Int) ≤ 256 := by omega
        have HT := Lib.hid (tkI_full HCH.out)
        clear hpn hnl hmm
        go_wp2_with (fail)
        refine (HK.out.take HL.out.at_).mono ?_
        rintro e w5 ⟨rfl, hA, ho⟩
        rw [HT.out] at hA ⊢
        have HL5 := Lib.hid (HL.out.turn hA ho)
        clear hA ho HL
        go_wp2_with (fail)
        obtain ⟨B2, hB2⟩ : ∃ B2, w5.heap.size = B2 := ⟨_, rfl⟩
        have HCL := Lib.hid (show ∀ q, C.all q → q < B2 from fun q hq => by rw [← hB2]; exact HK.out.lt HL5.out.at_ q hq)
        have HSE := Lib.hid (show (tkI S0 k).ch = [] ∧ (tkI S0 k).n = k by
          refine ⟨?_, ?_⟩
          · rw [tkI_ch HCH.out k (Nat.le_refl k)]
            exact List.drop_eq_nil_of_le (by simp)
          · obtain ⟨h1, h2⟩ := tkI_same S0 k
            have h3 := HSN.out
            unfold Sl.n at h3 ⊢
            rw [h1, h2]
            exact h3)
        have HB5 := Lib.hid (show B2 ≤ w5.heap.size ∧ w.heap.size ≤ B2 from ⟨by omega, by have := HL5.out.le; omega⟩)
        clear hB2 HT
        generalize tkI S0 k = S5 at *
        have hk0 : ¬ ((k : Int) = 0) := by omega
        go_loopw [103, 19] (fun i l wr => ∃ (j : Nat) (gl : List Nat) (S : Sl) (la : Option Addr) (lc : Nat), j ≤ k ∧ i = .int .i64 j ∧ l = .slice la gl.length lc ∧ gl.length ≤ j ∧ Hid (LAt SlAt w.heap.size w C S wr) ∧ Hid (S.ch = gl.reverse) ∧ Hid (wr.ownsRow B2 3 1 (.slice la gl.length lc) gl.length (natV gl)) ∧ Hid (B2 ≤ wr.heap.size)) (fun i _ _ => k - (intOf i).toNat)
        case atStart => exact ⟨0, [], S5, none, 0, Nat.zero_le _, rfl, rfl, Nat.le_refl _, HL5, HSE.out.1, World.ownsRow_nil _ _ _ _, HB5.out.1⟩
        case round =>
          clear HL5 HSE
          obtain ⟨j, gl, S, la, lc, hj, rfl, rfl, hgl, HL, HC, HO, HBB⟩ := hrel
          by_cases hlt : j < k
          · have hltI : (j : Int) < (k : Int) := by omega
            go_wp2_with (fail)
            generalize (wrap64 (wrap64 ((j : Int) * wrap64 (1 + wrap64 ((IntKind.u64.wrap turn).tmod 7))) + wrap64 ((IntKind.u64.wrap turn).tmod (k : Int)))).tmod (k : Int) = x
            rcases give_or S x with ⟨i, rfl, _, he⟩ | ⟨e', hne, he⟩
            · have HE := Lib.hid he
              clear he
              refine (HK.out.give (i : Int) HL.out.at_).mono ?_
              rintro e w6 ⟨rfl, hA, ho⟩
              rw [HE.out] at hA ⊢
              have HL6 := Lib.hid (HL.out.turn hA ho)
              have HO6 := Lib.hid (owns_only HO.out ho (fun q hq h => by have := (HO.out.lt q hq).1; have := HCL.out q h; omega))
              have HB6 := Lib.hid (show B2 ≤ w6.heap.size from Nat.le_trans HBB.out ho.size)
              have HC6 := Lib.hid (show (S.given i).ch = (gl ++ [i]).reverse by rw [(given_same S i).2.2, HC.out, List.reverse_append]; rfl)
              clear hA ho HL HO HBB HC HE
              go_wp2_with (first | (at_builtin; refine wpList_append_one w6 rfl _ _ 40 rfl B2 3 i0 _ 1 8 Try.underlying40 hi hz0 hz1 hz2 rfl (by decide) _ _ _ #[.int .i64 i] HO6.out HB6.out rfl rfl rfl (one_cell _ _) (by omega) (by decide) ?_; intro v7 w7 hown7 ho7 _) | fail)
              have hown7' := hown7
              rw [← natV_snoc, show gl.length + 1 = (gl ++ [i]).length by simp] at hown7'
              obtain ⟨a7, c7, hv7, _⟩ := owns_slice hown7'
              subst hv7
              have HL7 := Lib.hid (HL6.out.only HK.out ho7 (fun q hq h => by have := (HO6.out.lt q h).1; have := HCL.out q hq; omega) (fun q h => by have := (HO6.out.lt q h).1; have := HB5.out.2; omega))
              have HO7 := Lib.hid hown7'
              have HB7 := Lib.hid (show B2 ≤ w7.heap.size from Nat.le_trans HB6.out ho7.size)
              clear hown7 hown7' ho7 HL6 HO6 HB6
              go_wp2_with (fail)
              go_roundw
              case rel => exact ⟨j + 1, gl ++ [i], S.given i, a7, c7, hlt, by go_num, rfl, by rw [List.length_append]; simp; omega, HL7, HC6, HO7, HB7⟩
              case measure => simp [intOf]; omega
            · have HE := Lib.hid he
              have hne2 : (e' == 0) = false := by simpa using hne
              clear he hne
              refine (HK.out.give x HL.out.at_).mono ?_
              rintro e w6 ⟨rfl, hA, ho⟩
              rw [HE.out] at hA ⊢
              have HL6 := Lib.hid (HL.out.turn hA ho)
              have HO6 := Lib.hid (owns_only HO.out ho (fun q hq h => by have := (HO.out.lt q hq).1; have := HCL.out q h; omega))
              have HB6 := Lib.hid (show B2 ≤ w6.heap.size from Nat.le_trans HBB.out ho.size)
              clear hA ho HL HO HBB HE
              go_wp2_with (fail)
              go_roundw
              case rel => exact ⟨j + 1, gl, S, la, lc, hlt, by go_num, rfl, by omega, HL6, HC, HO6, HB6⟩
              case measure => simp [intOf]; omega
          · obtain rfl : j = k := by omega
            have HC0 := Lib.hid (show S.ch = gl.reverse.drop 0 from HC.out)
            clear HC
            go_wp2_with (fail)
            go_loopw [133] (fun i wr => ∃ (q : Nat) (S : Sl), q ≤ gl.length ∧ i = .int .i64 q ∧ Hid (LAt SlAt w.heap.size w C S wr) ∧ Hid (S.ch = gl.reverse.drop q) ∧ Hid (wr.ownsRow B2 3 1 (.slice la gl.length lc) gl.length (natV gl))) (fun i _ => gl.length - (intOf i).toNat)
            case atStart => exact ⟨0, S, Nat.zero_le _, rfl, HL, HC0, HO⟩
            case round =>
              clear HL HC0 HO HBB
              obtain ⟨q, S, hq, rfl, HL, HC, HO⟩ := hrel
              by_cases hlt : q < gl.length
              · have hltI : (q : Int) < (gl.length : Int) := by omega
                have hdrop : S.ch = gl.getD (gl.length - 1 - q) 0 :: gl.reverse.drop (q + 1) := by
                  rw [HC.out, List.drop_eq_getElem_cons (by simpa using hlt), List.getElem_reverse, List.getD_eq_getElem?_getD, List.getElem?_eq_getElem (by omega)]
                  rfl
                have HT := Lib.hid (take_cons hdrop)
                go_wp2_with (fail)
                refine (HK.out.take HL.out.at_).mono ?_
                rintro e w6 ⟨rfl, hA, ho⟩
                rw [HT.out] at hA ⊢
                have HL6 := Lib.hid (HL.out.turn hA ho)
                have HO6 := Lib.hid (owns_only HO.out ho (fun q hq h => by have := (HO.out.lt q hq).1; have := HCL.out q h; omega))
                obtain ⟨a6, c6, e6, hh6⟩ := owns_slice HO6.out
                injection e6 with e6 _ e7
                subst e6
                subst e7
                obtain ⟨g6, rfl, _, _, A6, t6, hA6, hx6⟩ := hh6 (by omega)
                obtain ⟨x, hx⟩ : ∃ x, gl.length - 1 - q = x := ⟨_, rfl⟩
                have cx : w6.cell? ⟨g6, x, none⟩ = some (.int .i64 (gl.getD x 0 : Int)) := by
                  rw [cell_of_row _ _ _ _ _ _ hA6, hx6 x (by omega)]
                  exact natV_at (by omega)
                have hxI : (gl.length : Int) - 1 - (q : Int) = (x : Int) := by omega
                have hxb : (x : Int) < (gl.length : Int) := by omega
                have HLT := Lib.hid hlt
                have hgl3 : gl.length ≤ 32 := by omega
                rw [hx]
                clear hA ho HL HO hh6 hA6 hx6 hdrop HT HC hx hlt
                generalize gl.getD x 0 = y at *
                go_wp2_with (fail)
                go_roundw
                case rel => exact ⟨q + 1, _, HLT.out, by go_num, HL6, rfl, HO6⟩
                case measure => simp [intOf]; omega
              · obtain rfl : q = gl.length := by omega
                go_wp2_with (fail)
                refine (cknown_any HK.out _).mono ?_
                rintro e w6 ⟨rfl, hb⟩
                have HB6 := Lib.hid (HL.out.ends hb)
                clear hb
                go_wp2_with (fail)
                go_ret
                exact ⟨rfl, HB6.out⟩
  · have HM := Lib.hid (show mayC size colour = false by simpa using hm)
    clear hm
    go_enter Try.func4, Try.ntmps4
    go_wp2_with (fail)
    clear hmk
    generalize w.alloc (.cells Z 5) = w1 at *
    refine (HK.out.newNo _ _ _ size colour w1 (.inr HM.out)).mono ?_
    rintro e w2 ⟨rfl, hb⟩
    have HB2 := Lib.hid (HB1.out.trans (hb.mono HB1.out.size))
    clear hb
    go_wp2_with (fail)
    refine (cknown_any HK.out w2).mono ?_
    rintro e w3 ⟨rfl, hb⟩
    have HB3 := Lib.hid (HB2.out.trans (hb.mono HB2.out.size))
    clear hb
    go_wp2_with (fail)
    go_ret
    exact ⟨rfl, HB3.out⟩
end
end Go.Proofs.Ytifiecfkcikdmaa
