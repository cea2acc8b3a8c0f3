/-
  The walk of ConfigAll: it returns true, and below the old heap nothing has turned.
-/
import Derived.Test.YtkckmdmpbhkgpaaKnown
namespace Go.Proofs.Ytkckmdmpbhkgpaa
open Go.RowKit Go

theorem sumF_le {g : Nat → Int} (G : Good g) {n : Nat} (hn : g 0 = n) {a b : Nat} (h : a ≤ b) (hb : b ≤ n) : sumF g a ≤ sumF g b := by
  have := sumF_mono g n (fun i hi => by have := G.frames i (by omega); omega) (b - a) a (by omega)
  rwa [show a + (b - a) = b by omega] at this
theorem node_in {g : Nat → Int} (G : Good g) {n : Nat} (hn : g 0 = n) {k : Nat} (hk : k < n) {f x y : Int} (h1 : sumF g k ≤ f) (h2 : f < sumF g (k + 1)) (h : NodeAns g n f x y) : x = k ∧ y = 0 := by
  have h0 : 0 ≤ sumF g k := (sumF_bd g k (fun i hi => by have := G.frames i (by omega); omega)).1
  have h3 := sumF_le G hn (show k + 1 ≤ n by omega) (Nat.le_refl _)
  rcases h with ⟨h, _, _⟩ | ⟨j, hj, a1, a2, a3, a4⟩
  · omega
  · by_cases e : j = k
    · subst e; exact ⟨a3, a4⟩
    · by_cases e2 : j < k
      · have := sumF_le G hn (show j + 1 ≤ k by omega) (by omega); omega
      · have := sumF_le G hn (show k + 1 ≤ j by omega) (by omega); omega
theorem node_out {g : Nat → Int} (G : Good g) {n : Nat} (hn : g 0 = n) {x y : Int} (h : NodeAns g n (sumF g n) x y) : x = 0 ∧ y = 7 := by
  rcases h with ⟨_, a, b⟩ | ⟨j, hj, a1, a2, a3, a4⟩
  · exact ⟨a, b⟩
  · have := sumF_le G hn (show j + 1 ≤ n by omega) (Nat.le_refl _); omega

theorem all_no (A : Array Value) (g : Nat → Int) (w : World) (hA : Cfg A g) (hm : mayB g = false) :
    Calls Try.prog 5 #[.agg A] w fun e w' => e = .returned (.bool true) ∧ Below w.heap.size w w' := by
  have C0 := CfgAt.new w hA
  have hB : Below w.heap.size w (w.alloc (.cells A 26)) := (Below.refl _ _).alloc (Nat.le_refl _) _
  have HA := Lib.hid hA
  have HM := Lib.hid hm
  clear hA hm
  go_enter Try.func5, Try.ntmps5
  go_wp2_with (refine wpList_load_cfg rfl _ rfl _ rfl C0 ?_)
  refine (may_any A g _ HA.out).mono ?_
  rintro e w1 ⟨rfl, hb⟩
  rw [HM.out]
  have hB1 := hB.trans (hb.mono hB.size)
  clear hb hB C0
  go_wp2_with (fail)
  refine (known_any w1).mono ?_
  rintro e w2 ⟨rfl, hb⟩
  have hB2 := hB1.trans (hb.mono hB1.size)
  clear hb hB1
  go_wp2_with (fail)
  go_ret
  exact ⟨rfl, hB2⟩

set_option maxHeartbeats 1000000 in
theorem all_yes (A : Array Value) (g : Nat → Int) (n : Nat) (w : World) (hA : Cfg A g) (hm : mayB g = true) (hn : g 0 = n) :
    Calls Try.prog 5 #[.agg A] w fun e w' => e = .returned (.bool true) ∧ Below w.heap.size w w' := by
  have C0 := CfgAt.new w hA
  have hB : Below w.heap.size w (w.alloc (.cells A 26)) := (Below.refl _ _).alloc (Nat.le_refl _) _
  have G := (good_iff g).1 hm
  have hn8 : n ≤ 8 := by have := G.n2; omega
  have HT := Lib.hid (show totalI g = sumF g n by unfold totalI; rw [if_pos hm, hn]; rfl)
  have HG := Lib.hid G
  have HN := Lib.hid hn
  have HA := Lib.hid hA
  have HM := Lib.hid hm
  clear hA hm hn G
  go_enter Try.func5, Try.ntmps5
  go_wp2_with (refine wpList_load_cfg rfl _ rfl _ rfl C0 ?_)
  refine (may_any A g _ HA.out).mono ?_
  rintro e w1 ⟨rfl, hb⟩
  rw [HM.out]
  have hB1 := hB.trans (hb.mono hB.size)
  have C1 := C0.later hb
  have c0 := C1.cell 0 (by decide)
  rw [HN.out] at c0
  clear hb hB C0
  go_wp2_with (fail)
  clear c0
  go_loopw [3, 18] (fun s x wr => ∃ k : Nat, k ≤ n ∧ x = .int .i64 k ∧ s = .int .i64 (sumF g k) ∧ CfgAt wr w.heap.size A g ∧ Below w.heap.size w wr) (fun _ x _ => n - (intOf x).toNat)
  case atStart => exact ⟨0, Nat.zero_le _, rfl, rfl, C1, hB1⟩
  case round =>
    clear C1 hB1
    obtain ⟨k, hk, rfl, rfl, C, hB⟩ := hrel
    obtain ⟨b1, b2⟩ := sumF_bd g k (fun i hi => by have := HG.out.frames i (by rw [HN.out]; omega); omega)
    by_cases hlt : k < n
    · have HS := Lib.hid (show sumF g (k + 1) = sumF g k + g (18 + k) from rfl)
      obtain ⟨f, hf⟩ := Int.eq_ofNat_of_zero_le (show 0 ≤ g (18 + k) by have := HG.out.frames k (by rw [HN.out]; omega); omega)
      have hf8 : f ≤ 128 := by have := HG.out.frames k (by rw [HN.out]; omega); omega
      have HF := Lib.hid hf
      have HK := Lib.hid (show askI g k = 0 from ask_zero.2 ⟨HG.out, by omega, by rw [HN.out]; omega⟩)
      have HI := Lib.hid (show firstI g k = sumF g k by unfold firstI; rw [if_pos HK.out]; rfl)
      have ik : (k : Int) < 8 := by omega
      clear hf
      go_wp2_with (refine wpList_load_cfg rfl _ rfl _ rfl C ?_)
      refine (first_any A g k _ HA.out).mono ?_
      rintro e w2 ⟨rfl, hb⟩
      rw [HI.out, HK.out]
      have C2 := C.later hb
      have hB2 := hB.trans (hb.mono hB.size)
      have ck := C2.cell (18 + k) (by omega)
      rw [HF.out] at ck
      clear hb hB C
      go_wp2_with (fail)
      clear ck
      go_loopw [38] (fun x wr => ∃ j : Nat, j ≤ f ∧ x = .int .i64 j ∧ CfgAt wr w.heap.size A g ∧ Below w.heap.size w wr) (fun x _ => f - (intOf x).toNat)
      case atStart => exact ⟨0, Nat.zero_le _, rfl, C2, hB2⟩
      case round =>
        clear C2 hB2
        obtain ⟨j, hj, rfl, C, hB⟩ := hrel
        by_cases hlj : j < f
        · go_wp2_with (refine wpList_load_cfg rfl _ rfl _ rfl C ?_)
          refine (node_any A g (sumF g k + j) n _ (by omega) HA.out HN.out HM.out).mono ?_
          rintro e w3 ⟨x, y, rfl, ha, hb⟩
          obtain ⟨rfl, rfl⟩ := node_in HG.out HN.out hlt (by omega) (by rw [HS.out, HF.out]; omega) ha
          have C3 := C.later hb
          have hB3 := hB.trans (hb.mono hB.size)
          clear ha hb hB C
          go_wp2_with (fail)
          go_roundw
          case rel => exact ⟨j + 1, hlj, by go_num, C3, hB3⟩
          case measure => simp [intOf]; omega
        · have cz := C.cell (18 + k) (by omega)
          rw [HF.out] at cz
          go_wp2_with (fail)
          go_roundw
          case rel => exact ⟨k + 1, hlt, by go_num, by rw [HS.out, HF.out], C, hB⟩
          case measure => simp [intOf]; omega
    · obtain rfl : k = n := by omega
      go_wp2_with (refine wpList_load_cfg rfl _ rfl _ rfl C ?_)
      refine (node_any A g (sumF g k) k _ (by omega) HA.out HN.out HM.out).mono ?_
      rintro e w3 ⟨x, y, rfl, ha, hb⟩
      obtain ⟨rfl, rfl⟩ := node_out HG.out HN.out ha
      have C3 := C.later hb
      have hB3 := hB.trans (hb.mono hB.size)
      clear ha hb hB C
      go_wp2_with (refine wpList_load_cfg rfl _ rfl _ rfl C3 ?_)
      refine (total_any A g _ HA.out).mono ?_
      rintro e w4 ⟨rfl, hb⟩
      rw [HT.out]
      have hB4 := hB3.trans (hb.mono hB3.size)
      clear hb hB3 C3
      generalize sumF g k = s at b1 b2
      go_wp2_with (fail)
      refine (known_any w4).mono ?_
      rintro e w5 ⟨rfl, hb⟩
      have hB5 := hB4.trans (hb.mono hB4.size)
      clear hb hB4
      go_wp2_with (fail)
      go_ret
      exact ⟨rfl, hB5⟩

theorem lawAll_any (A : Array Value) (g : Nat → Int) (w : World) (hA : Cfg A g) :
    Calls Try.prog 5 #[.agg A] w fun e w' => e = .returned (.bool true) ∧ Below w.heap.size w w' := by
  cases hm : mayB g with
  | false => exact all_no A g w hA hm
  | true =>
    obtain ⟨n, hn⟩ := Int.eq_ofNat_of_zero_le (show 0 ≤ g 0 by have := ((good_iff g).1 hm).n1; omega)
    exact all_yes A g n w hA hm hn
end Go.Proofs.Ytkckmdmpbhkgpaa
