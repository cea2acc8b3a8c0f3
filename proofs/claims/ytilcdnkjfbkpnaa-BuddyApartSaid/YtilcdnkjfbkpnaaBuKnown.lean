/-
  buddy's law: eight frames.
-/
import Derived.Test.YtilcdnkjfbkpnaaBuCopy
namespace Go.Proofs.Ytilcdnkjfbkpnaa
open Go.RowKit Go

theorem inv_new {n : Nat} (h1 : 1 ≤ n) (h2 : n ≤ 128) : Inv n (newL n) [] := by
  obtain ⟨S, R, N⟩ := new_stk n
  refine ⟨h1, h2, ?_, R, N, fun p h => absurd h List.not_mem_nil⟩
  have e : (fun _ _ => False) = memL [] := set_eq fun o a => by
    unfold memL
    simp
  rw [← e]
  exact S
theorem new_of {z : Int} {n : Nat} (hz : z = n) (h1 : 1 ≤ n) (h2 : n ≤ 128) (w : World) : Calls Try.prog 9 #[.int .i64 z] w (New6 w n) := by
  subst hz
  exact new6_any h1 h2 w
theorem kn1 : takeS (newL 8) [] 0 false = (0, 0, [(1, 0), (2, 1), (4, 2)], [(0, 0)]) := by decide +kernel
theorem kn2 : takeS [(1, 0), (2, 1), (4, 2)] [(0, 0)] 2 false = (4, 0, [(1, 0), (2, 1)], [(0, 0), (4, 2)]) := by decide +kernel
theorem kn3 : giveS [(1, 0), (2, 1)] [(0, 0), (4, 2)] 0 0 = (0, [(0, 2)], [(4, 2)]) := by decide +kernel
theorem kn4 : giveS [(0, 2)] [(4, 2)] 4 2 = (0, [(0, 3)], []) := by decide +kernel
theorem kn5 {x : Int} (h : MstL [(0, 3)] x) : x = 3 := by
  rcases h with ⟨_, h⟩ | ⟨o, rfl, _, ⟨y, hy⟩, _⟩
  · exact absurd ⟨0, by simp⟩ (h 3 (by decide))
  · simp at hy
    omega
set_option maxRecDepth 100000 in
set_option maxHeartbeats 1000000 in
theorem known_any (w : World) : Calls Try.prog 10 #[] w fun e w' => e = .returned (.bool true) ∧ Below w.heap.size w w' := by
  go_enter Try.func10, Try.ntmps10
  go_wp2_with (fail)
  refine (new_of (z := 8) (n := 8) rfl (by decide) (by decide) w).mono ?_
  rintro e w1 ⟨d, mb, tb, rfl, hN, hd, ho, hb⟩
  have HN := Lib.hid hN
  have HB := Lib.hid hb
  have HD := Lib.hid hd
  have HO := Lib.hid ho
  have HI := Lib.hid (inv_new (n := 8) (by decide) (by decide))
  clear hN hb hd ho
  go_wp2_with (fail)
  refine (take6_any HN.out HI.out 0 false).mono ?_
  rintro e w2 ⟨rfl, hN, ho⟩
  have hI := HI.out.take 0 false
  rw [kn1] at hN hI ⊢
  have HN2 := Lib.hid hN
  have HB2 := Lib.hid (ho.below HB.out HB.out.size HO.out)
  have HI2 := Lib.hid hI
  clear hN ho hI HN HB HI
  go_wp2_with (fail)
  refine (take6_any HN2.out HI2.out 2 false).mono ?_
  rintro e w3 ⟨rfl, hN, ho⟩
  have hI := HI2.out.take 2 false
  dsimp only at hN hI ⊢
  rw [kn2] at hN hI ⊢
  have HN3 := Lib.hid hN
  have HB3 := Lib.hid (ho.below HB2.out HB2.out.size HO.out)
  have HI3 := Lib.hid hI
  clear hN ho hI HN2 HB2 HI2
  go_wp2_with (fail)
  refine (free_any HN3.out HI3.out).mono ?_
  rintro e w' ⟨rfl, rfl⟩
  rw [show ((freeT [((1 : Int), (0 : Int)), (2, 1)] : Nat) : Int) = 3 from rfl]
  go_wp2_with (fail)
  refine (give6_any HN3.out HI3.out 0 0 (by decide)).mono ?_
  rintro e w4 ⟨rfl, hN, ho⟩
  have hI := HI3.out.giveAny 0 0
  rw [kn3] at hN hI ⊢
  have HN4 := Lib.hid hN
  have HB4 := Lib.hid (ho.below HB3.out HB3.out.size HO.out)
  have HI4 := Lib.hid hI
  clear hN ho hI HN3 HB3 HI3
  go_wp2_with (fail)
  refine (give6_any HN4.out HI4.out 4 2 (by decide)).mono ?_
  rintro e w5 ⟨rfl, hN, ho⟩
  rw [kn4] at hN ⊢
  have HN5 := Lib.hid hN
  have HB5 := Lib.hid (ho.below HB4.out HB4.out.size HO.out)
  clear hN ho HN4 HB4 HI4
  go_wp2_with (fail)
  refine (most6_any HN5.out).mono ?_
  rintro e w6 ⟨⟨x, rfl, hx⟩, hb⟩
  obtain rfl := kn5 hx
  have HB6 := Lib.hid (HB5.out.trans (hb.mono HB5.out.size))
  clear hb hx
  go_wp2_with (fail)
  go_ret
  exact ⟨rfl, HB6.out⟩
end Go.Proofs.Ytilcdnkjfbkpnaa
