/-
  The known case: the calls on the law's own config.
-/
import Derived.Test.YtkckmdmpbhkgpaaNear
namespace Go.Proofs.Ytkckmdmpbhkgpaa
open Go.RowKit Go

theorem two_may : mayB twoG = true := by decide +kernel
theorem two_good : Good twoG := (good_iff _).1 two_may
theorem two_first : firstI twoG 1 = 4 := by decide +kernel
theorem two_ask : askI twoG 1 = 0 := by decide +kernel
theorem two_total : totalI twoG = 12 := by decide +kernel
theorem two_sum1 : sumF twoG 1 = 4 := by decide +kernel
theorem two_sum2 : sumF twoG 2 = 12 := by decide +kernel
theorem two_order : (ordL twoG 1 2)[0]! = 1 := Fin.ext (ord_first two_good rfl (by decide))
theorem two_node {x y : Int} (h : NodeAns twoG 2 4 x y) : x = 1 ∧ y = 0 := by
  rcases h with ⟨h, _, _⟩ | ⟨k, hk, h1, h2, h3, h4⟩
  · rw [two_sum2] at h; omega
  · rcases (show k = 0 ∨ k = 1 by omega) with rfl | rfl
    · rw [show sumF twoG (0 + 1) = 4 from two_sum1] at h2; omega
    · exact ⟨h3, h4⟩

theorem known_any (w : World) :
    Calls Try.prog 13 #[] w fun e w' => e = .returned (.bool true) ∧ Below w.heap.size w w' := by
  obtain ⟨Z, hz, hZ⟩ := zeroCfg
  have HZ := Lib.hid hz
  clear hz
  go_enter Try.func13, Try.ntmps13
  go_wp2_with (fail)
  refine (two_any w).mono ?_
  rintro e w1 ⟨T, rfl, hT, hb1⟩
  have HT := Lib.hid hT
  have HB1 := Lib.hid hb1
  have HS := Lib.hid (store_last w1 HZ.out hT)
  have C1 := CfgAt.new w1 hT
  have hB : Below w.heap.size w (w1.alloc (.cells T 26)) := hb1.alloc hb1.size _
  clear hT hb1
  go_wp2_with (first
    | (refine wpList_store_run rfl 26 _ _ rfl w1.heap.size T _ rfl rfl HS.out ?_)
    | (refine wpList_load_cfg rfl _ rfl _ rfl C1 ?_))
  generalize w1.alloc (.cells T 26) = v1 at C1 hB
  refine (first_any T twoG 1 v1 HT.out).mono ?_
  rintro e w2 ⟨rfl, hb⟩
  rw [two_first, two_ask]
  have C2 := C1.later hb
  have hB2 := hB.trans (hb.mono hB.size)
  clear hb hB C1
  go_wp2_with (refine wpList_load_cfg rfl _ rfl _ rfl C2 ?_)
  refine (node_any T twoG 4 2 w2 (by decide) HT.out rfl two_may).mono ?_
  rintro e w3 ⟨x, y, rfl, ha, hb⟩
  obtain ⟨rfl, rfl⟩ := two_node ha
  have C3 := C2.later hb
  have hB3 := hB2.trans (hb.mono hB2.size)
  clear ha hb hB2 C2
  go_wp2_with (refine wpList_load_cfg rfl _ rfl _ rfl C3 ?_)
  refine (order_yes T twoG 1 2 w3 HT.out two_good rfl (by decide)).mono ?_
  rintro e w4 ⟨ob, rfl, _, ho, hb⟩
  have C4 := C3.later hb
  have hB4 := hB3.trans (hb.mono hB3.size)
  have c0 : w4.cell? ⟨ob, 0, none⟩ = some (.int .i64 1) := by rw [ho.2 0 (by decide), two_order]; rfl
  clear ho hb hB3 C3
  go_wp2_with (refine wpList_load_cfg rfl _ rfl _ rfl C4 ?_)
  refine (may_any T twoG w4 HT.out).mono ?_
  rintro e w5 ⟨rfl, hb⟩
  rw [two_may]
  have C5 := C4.later hb
  have hB5 := hB4.trans (hb.mono hB4.size)
  have c1 : w5.cell? ⟨ob, 0, none⟩ = some (.int .i64 1) := by rw [hb.cell (World.block_lt_of_cell? _ _ c0)]; exact c0
  clear hb hB4 C4 c0
  go_wp2_with (refine wpList_load_cfg rfl _ rfl _ rfl C5 ?_)
  refine (total_any T twoG w5 HT.out).mono ?_
  rintro e w6 ⟨rfl, hb⟩
  rw [two_total]
  have hB6 := hB5.trans (hb.mono hB5.size)
  have c2 : w6.cell? ⟨ob, 0, none⟩ = some (.int .i64 1) := by rw [hb.cell (World.block_lt_of_cell? _ _ c1)]; exact c1
  clear hb hB5 C5 c1
  go_wp2_with (fail)
  go_ret
  exact ⟨rfl, hB6⟩
end Go.Proofs.Ytkckmdmpbhkgpaa
