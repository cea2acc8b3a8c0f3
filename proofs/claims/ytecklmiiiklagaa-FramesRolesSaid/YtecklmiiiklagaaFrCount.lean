/-
  frames: Count.
-/
import Derived.Test.YtecklmiiiklagaaFrRead
namespace Go.Proofs.Ytecklmiiiklagaa
open Go.RowKit Go

/-- How many of k marks from lo on have the role. -/
def cntK (K : Nat → Mk) (lo : Nat) (r : Int) : Nat → Nat
  | 0 => 0
  | k + 1 => cntK K lo r k + if (K (lo + k)).r = r then 1 else 0
theorem cntK_le (K : Nat → Mk) (lo : Nat) (r : Int) : ∀ k, cntK K lo r k ≤ k
  | 0 => Nat.le_refl _
  | k + 1 => by
    have := cntK_le K lo r k
    unfold cntK
    split <;> omega
theorem mkV_at (K : Nat → Mk) (f j : Nat) (h : j < 5) : mkV K (f * 5 + j) = (K f).cell j := by
  unfold mkV
  rw [show (f * 5 + j) / 5 = f by omega, show (f * 5 + j) % 5 = j by omega]
theorem MemAt.mark {w : World} {M : MB} {ST : Nat → Nat} {B : Nat → UInt8} {K : Nat → Mk} (H : MemAt w M ST B K) (f j : Nat) (hf : f < M.T) (hj : j < 5) : w.cell? ⟨M.kb, f * 5 + j, none⟩ = some ((K f).cell j) := by
  rw [H.marks.cell _ (by omega), mkV_at K f j hj]
theorem MemAt.range {w : World} {M : MB} {ST : Nat → Nat} {B : Nat → UInt8} {K : Nat → Mk} (H : MemAt w M ST B K) (f : Nat) (hf : f < M.T) : w.rangeAt M.kb (f * 5) (K f).cells := fun j v hv => by
  have hj : j < 5 := (List.getElem?_eq_some_iff.1 hv).1
  rw [H.mark f j hf hj]
  rcases (show j = 0 ∨ j = 1 ∨ j = 2 ∨ j = 3 ∨ j = 4 by omega) with rfl | rfl | rfl | rfl | rfl <;> exact hv

theorem count_gone (p : Option Addr) (nd r : Int) (w : World) (h : Gone w p) : Calls Try.prog 18 #[.pointer p, .int .i64 nd, .int .u8 r] w fun e w' => e = .returned (.int .i64 0) ∧ w = w' := by
  rcases h with rfl | ⟨m, rfl, h0, h1, h2⟩
  · go_enter Try.func18, Try.ntmps18
    go_wp2_with (fail)
    go_ret
    exact ⟨rfl, rfl⟩
  · by_cases hn : nd < 0
    · go_enter Try.func18, Try.ntmps18
      go_wp2_with (fail)
      go_ret
      exact ⟨rfl, rfl⟩
    · go_enter Try.func18, Try.ntmps18
      go_wp2_with (fail)
      go_ret
      exact ⟨rfl, rfl⟩

theorem sizeMark : (Try.prog.info? 25).map (·.size) = some 5 := by kernel_rfl

set_option maxHeartbeats 1000000 in
theorem count_at {w : World} {M : MB} {ST : Nat → Nat} {B : Nat → UInt8} {K : Nat → Mk} (H : MemAt w M ST B K) (nd : Nat) (r : Int) (hn : nd < M.n) :
    Calls Try.prog 18 #[.pointer (some ⟨M.m, 0, none⟩), .int .i64 nd, .int .u8 r] w fun e w' => e = .returned (.int .i64 (cntK K (ST nd) r (ST (nd + 1) - ST nd))) ∧ Below w.heap.size w w' := by
  obtain ⟨k0, h0⟩ := H.c0
  obtain ⟨k2, hk2, h2⟩ := H.c2
  obtain ⟨s1, s2⟩ := H.st nd hn
  have a1 := H.starts.cell nd (by omega)
  have a2 := H.starts.cell (nd + 1) (by omega)
  have n8 := H.n8
  have T1 := H.T1
  have HH := Lib.hid H
  clear H
  obtain ⟨m, sb, bb, kb, n, T⟩ := M
  unfold stV at a1 a2
  dsimp only at *
  generalize hlo : ST nd = lo at *
  generalize hhi : ST (nd + 1) = hi at *
  clear hlo hhi
  have g1 : (nd : Int) + 1 < (n : Int) + 1 := by omega
  have g2 : IntKind.i64.wrap ((nd : Int) + 1) = (nd : Int) + 1 := IntWalk.i64_in _ (by omega)
  have g3 : ((nd : Int) + 1).toNat = nd + 1 := by omega
  have g4 : 0 ≤ (nd : Int) + 1 := by omega
  have g5 : (lo : Int) ≤ hi := by omega
  have g6 : (hi : Int) ≤ k2 := by omega
  have g7 : decide ((nd : Int) < 0) = false := decide_eq_false (by omega)
  have g8 : decide (n ≤ nd) = false := decide_eq_false (by omega)
  go_enter Try.func18, Try.ntmps18
  go_wp2_with (fail)
  go_quiet (fail)
  go_wp2_with (fail)
  obtain ⟨d, hd⟩ : ∃ d, d = hi - lo := ⟨_, rfl⟩
  rw [← hd]
  have hd2 : lo + d ≤ T := by omega
  clear a1 a2 g1 g2 g3 g4 g5 g6 g7 g8 h0 h2
  go_loopw [7, 47] (fun c i wr => ∃ k : Nat, k ≤ d ∧ i = .int .i64 k ∧ c = .int .i64 (cntK K lo r k) ∧ Below w.heap.size w wr) (fun _ i _ => d - (intOf i).toNat)
  case atStart => exact ⟨0, Nat.zero_le _, rfl, rfl, below_drewN (Below.refl _ _) _⟩
  case round =>
    obtain ⟨k, hk, rfl, rfl, hb⟩ := hrel
    have HB := Lib.hid hb
    by_cases hlt : k < d
    · have hr := (HH.out.later hb).range (lo + k) (by show lo + k < T; omega)
      dsimp only at hr
      rw [Nat.add_mul] at hr
      have hcn : cntK K lo r (k + 1) = cntK K lo r k + if (K (lo + k)).r = r then 1 else 0 := rfl
      have hle := cntK_le K lo r k
      generalize cntK K lo r k = c at hcn hle
      generalize K (lo + k) = x at hr hcn
      obtain ⟨x0, x1, x2, x3, x4⟩ := x
      unfold Mk.cells at hr
      dsimp only at hr hcn
      by_cases hx : x0 = r
      · rw [if_pos hx] at hcn
        have HC := Lib.hid hcn
        subst hx
        clear hb hcn hd
        go_wp2_with (refine wpList_load_mid rfl 25 _ rfl kb (lo * 5 + k * 5) rfl _ _ hr Try.underlying25 rfl sizeMark ?_)
        go_roundw
        case rel => exact ⟨k + 1, hlt, by go_num, by rw [HC.out]; go_num, HB.out.alloc HB.out.size _⟩
        case measure => simp [intOf]; omega
      · rw [if_neg hx] at hcn
        have HC := Lib.hid hcn
        have hxb : (x0 == r) = false := by simpa using hx
        clear hb hcn hd hx
        go_wp2_with (refine wpList_load_mid rfl 25 _ rfl kb (lo * 5 + k * 5) rfl _ _ hr Try.underlying25 rfl sizeMark ?_)
        go_roundw
        case rel => exact ⟨k + 1, hlt, by go_num, by rw [HC.out]; go_num, HB.out.alloc HB.out.size _⟩
        case measure => simp [intOf]; omega
    · obtain rfl : k = d := by omega
      have HD := Lib.hid hd
      clear hb hd
      go_wp2_with (fail)
      go_ret
      exact ⟨by rw [← HD.out]; rfl, HB.out⟩
end Go.Proofs.Ytecklmiiiklagaa
