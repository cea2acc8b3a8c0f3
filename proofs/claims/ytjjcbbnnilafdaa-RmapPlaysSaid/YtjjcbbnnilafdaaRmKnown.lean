/-
  rmap's laws: the map in a world of a law's; known.
-/
import Derived.Test.YtjjcbbnnilafdaaRmOk
namespace Go.Proofs.Ytjjcbbnnilafdaa
open Go.RowKit Go.Shelf Go
attribute [local go_sem] Oper.semAt_some

/-- The map, in a world of the law's: it lies from w0's end on. -/
def RK (IsR : Thg → Nat → Nat → (Nat → Ownr) → Prop) (w0 : World) (d N : Nat) (f : Nat → Ownr) (w : World) : Prop := ∃ X, IsR X d N f ∧ X.At w ∧ Below w0.heap.size w0 w ∧ ∀ k, X.has k → w0.heap.size ≤ k
section
variable {IsR : Thg → Nat → Nat → (Nat → Ownr) → Prop} (ok : RmOk IsR) {w0 w w' : World} {d N : Nat} {f : Nat → Ownr}
theorem RK.bel (h : RK IsR w0 d N f w) : Below w0.heap.size w0 w := by
  obtain ⟨X, _, _, h, _⟩ := h
  exact h
theorem RK.later (h : RK IsR w0 d N f w) (hb : Below w.heap.size w w') : RK IsR w0 d N f w' := by
  obtain ⟨X, h1, h2, h3, h4⟩ := h
  exact ⟨X, h1, X.later h2 hb, h3.trans (hb.mono h3.size), h4⟩
theorem RK.turn {X Y : Thg} {g : Nat → Ownr} (h3 : Below w0.heap.size w0 w) (h4 : ∀ k, X.has k → w0.heap.size ≤ k) (hY : IsR Y d N g) (hT : TTurn w X w' Y) : RK IsR w0 d N g w' :=
  ⟨Y, hY, hT.at', hT.only.below h3 h3.size h4, fun k hk => (hT.new k hk).elim (h4 k) (fun h => Nat.le_trans h3.size h)⟩
include ok
theorem RK.inv (h : RK IsR w0 d N f w) : RmI f N := by
  obtain ⟨X, h1, _⟩ := h
  exact ok.inv h1
theorem new_rk (w : World) (n : Int) (hn : InI n) : Calls Try.prog 9 #[.int .i64 n] w fun e w' => ∃ d, e = .returned (.pointer (some ⟨d, 0, none⟩)) ∧ RK IsR w d (capN n) (fun _ => (0, 0)) w' := by
  refine (ok.new w n hn).mono ?_
  rintro e w1 ⟨d, Y, rfl, hY, hT⟩
  exact ⟨d, rfl, RK.turn (X := Thg.no) (Below.refl _ _) (fun k hk => False.elim hk) hY hT⟩
theorem set_rk (h : RK IsR w0 d N f w) (x p q : Int) (hx : InI x) (hp : InI p) (hq : InI q) (c : Int) (g : Nat → Ownr) (hc : rsE f N x p q = c) (hg : rsF f N x p q = g) :
    Calls Try.prog 12 #[.pointer (some ⟨d, 0, none⟩), .int .i64 x, .int .i64 p, .int .i64 q] w fun e w' => e = .returned (.int .i64 c) ∧ RK IsR w0 d N g w' := by
  subst hc; subst hg
  obtain ⟨X, h1, h2, h3, h4⟩ := h
  exact (ok.set x p q hx hp hq h1 h2).mono fun _ _ ⟨Y, e, hY, hT⟩ => ⟨e, RK.turn h3 h4 hY hT⟩
theorem clear_rk (h : RK IsR w0 d N f w) (x : Int) (hx : InI x) (c : Int) (g : Nat → Ownr) (hc : rcE f N x = c) (hg : rcF f N x = g) :
    Calls Try.prog 14 #[.pointer (some ⟨d, 0, none⟩), .int .i64 x] w fun e w' => e = .returned (.int .i64 c) ∧ RK IsR w0 d N g w' := by
  subst hc; subst hg
  obtain ⟨X, h1, h2, h3, h4⟩ := h
  exact (ok.clear x hx h1 h2).mono fun _ _ ⟨Y, e, hY, hT⟩ => ⟨e, RK.turn h3 h4 hY hT⟩
theorem get_rk (h : RK IsR w0 d N f w) (x : Int) (hx : InI x) (p q : Nat) (b : Bool) (hv : rgO f N x = (p, q)) (hb : decide (p ≠ 0) = b) :
    Calls Try.prog 17 #[.pointer (some ⟨d, 0, none⟩), .int .i64 x] w fun e w' => e = .returned (.tuple #[.int .i64 p, .int .i64 q, .bool b]) ∧ Below w.heap.size w w' := by
  subst hb
  obtain ⟨X, h1, h2, _⟩ := h
  have h5 := ok.get x hx h1 h2
  rw [hv] at h5
  exact h5
theorem frames_rk (h : RK IsR w0 d N f w) : Calls Try.prog 11 #[.pointer (some ⟨d, 0, none⟩)] w fun e w' => e = .returned (.int .i64 N) ∧ Below w.heap.size w w' := by
  obtain ⟨X, h1, h2, _⟩ := h
  exact ok.frames h1 h2
set_option maxRecDepth 100000 in
set_option maxHeartbeats 4000000 in
theorem known_any (w : World) : Calls Try.prog 8 #[] w fun e w' => e = .returned (.bool true) ∧ Below w.heap.size w w' := by
  go_enter Try.func8, Try.ntmps8
  go_wp2_with (fail)
  refine (new_rk ok w 4 (by decide)).mono ?_
  rintro e w1 ⟨d, rfl, hK⟩
  have HK1 := Lib.hid (show RK IsR w d 4 (fun _ => (0, 0)) w1 from hK)
  clear hK
  go_wp2_with (fail)
  refine (set_rk ok HK1.out 2 1 7 (by decide) (by decide) (by decide) 0 (updO (fun _ => (0, 0)) 2 (1, 7)) (by decide +kernel) (if_pos (by decide +kernel))).mono ?_
  rintro e w2 ⟨rfl, hK⟩
  have HK2 := Lib.hid hK
  clear hK HK1
  go_wp2_with (fail)
  refine (set_rk ok HK2.out 2 1 8 (by decide) (by decide) (by decide) 80 _ (by decide +kernel) (if_neg (by decide +kernel))).mono ?_
  rintro e w3 ⟨rfl, hK⟩
  have HK3 := Lib.hid hK
  clear hK HK2
  go_wp2_with (fail)
  refine (set_rk ok HK3.out 3 1 7 (by decide) (by decide) (by decide) 8 _ (by decide +kernel) (if_neg (by decide +kernel))).mono ?_
  rintro e w4 ⟨rfl, hK⟩
  have HK4 := Lib.hid hK
  clear hK HK3
  go_wp2_with (fail)
  refine (get_rk ok HK4.out 2 (by decide) 1 7 true (by decide +kernel) (by decide)).mono ?_
  rintro e w5 ⟨rfl, hb⟩
  have HK5 := Lib.hid (HK4.out.later hb)
  clear hb HK4
  go_wp2_with (fail)
  refine (clear_rk ok HK5.out 2 (by decide) 0 (updO (updO (fun _ => (0, 0)) 2 (1, 7)) 2 (0, 0)) (by decide +kernel) (if_pos (by decide +kernel))).mono ?_
  rintro e w6 ⟨rfl, hK⟩
  have HK6 := Lib.hid hK
  clear hK HK5
  go_wp2_with (fail)
  refine (clear_rk ok HK6.out 2 (by decide) 7 _ (by decide +kernel) (if_neg (by decide +kernel))).mono ?_
  rintro e w7 ⟨rfl, hK⟩
  have HB := Lib.hid hK.bel
  clear hK HK6
  go_wp2_with (fail)
  go_ret
  exact ⟨rfl, HB.out⟩
end
end Go.Proofs.Ytjjcbbnnilafdaa
