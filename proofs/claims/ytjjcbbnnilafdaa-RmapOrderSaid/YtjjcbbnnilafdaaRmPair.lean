/-
  rmap's laws: two maps, apart, beside blocks of the law's own.
-/
import Derived.Test.YtjjcbbnnilafdaaRmKp
namespace Go.Proofs.Ytjjcbbnnilafdaa
open Go.RowKit Go.Shelf Go

/-- Two maps. -/
abbrev P2 (IsR : Thg → Nat → Nat → (Nat → Ownr) → Prop) (d N : Nat) (f : Nat → Ownr) (d2 : Nat) (g : Nat → Ownr) : Thg → Prop := fun Z => ∃ X Y, Z = X.two Y ∧ IsR X d N f ∧ IsR Y d2 N g
section
variable {IsR : Thg → Nat → Nat → (Nat → Ownr) → Prop} (ok : RmOk IsR) {w0 w w' : World} {d d2 N : Nat} {f g : Nat → Ownr} {P : Nat → Prop}
include ok
/-- A second one is made. -/
theorem new_p2 (h : KPT (fun X => IsR X d N f) w0 P w) (n : Int) (hn : InI n) (hN : capN n = N) : Calls Try.prog 9 #[.int .i64 n] w fun e w' => ∃ d2, e = .returned (.pointer (some ⟨d2, 0, none⟩)) ∧ KPT (P2 IsR d N f d2 (fun _ => (0, 0))) w0 P w' := by
  obtain ⟨X, h1, h2, h3, h4, h5⟩ := h
  refine (ok.new w n hn).mono ?_
  rintro e w1 ⟨d2, Y, rfl, hY, hT⟩
  rw [hN] at hY
  exact ⟨d2, rfl, (KPT.turn h3 h4 h5 (Is := P2 IsR d N f d2 (fun _ => (0, 0))) ⟨X, Y, rfl, h1, hY⟩ (TTurn.add h2 hT)).1⟩
/-- A copy. -/
theorem copy_p2 (h : KPT (fun X => IsR X d N f) w0 P w) : Calls Try.prog 16 #[.pointer (some ⟨d, 0, none⟩)] w fun e w' => ∃ d2, e = .returned (.pointer (some ⟨d2, 0, none⟩)) ∧ KPT (P2 IsR d N f d2 f) w0 P w' := by
  obtain ⟨X, h1, h2, h3, h4, h5⟩ := h
  refine (ok.copy h1 h2).mono ?_
  rintro e w1 ⟨d2, Y, rfl, hY, hT⟩
  exact ⟨d2, rfl, (KPT.turn h3 h4 h5 (Is := P2 IsR d N f d2 f) ⟨X, Y, rfl, h1, hY⟩ (TTurn.add h2 hT)).1⟩
theorem set_p1 (h : KPT (P2 IsR d N f d2 g) w0 P w) (x p q : Int) (hx : InI x) (hp : InI p) (hq : InI q) (c : Int) (f' : Nat → Ownr) (hc : rsE f N x p q = c) (hg : rsF f N x p q = f') :
    Calls Try.prog 12 #[.pointer (some ⟨d, 0, none⟩), .int .i64 x, .int .i64 p, .int .i64 q] w fun e w' => e = .returned (.int .i64 c) ∧ KPT (P2 IsR d N f' d2 g) w0 P w' ∧ Only (fun k => ¬ P k) w w' := by
  subst hc; subst hg
  obtain ⟨_, ⟨X, Y, rfl, i1, i2⟩, h2, h3, h4, h5⟩ := h
  exact (ok.set x p q hx hp hq i1 h2.1).mono fun _ _ ⟨Z, e, hZ, hT⟩ => ⟨e, KPT.turn (Is := P2 IsR d N (rsF f N x p q) d2 g) h3 h4 h5 ⟨Z, Y, rfl, hZ, i2⟩ (TTurn.fst h2 hT)⟩
theorem clear_p1 (h : KPT (P2 IsR d N f d2 g) w0 P w) (x : Int) (hx : InI x) (c : Int) (f' : Nat → Ownr) (hc : rcE f N x = c) (hg : rcF f N x = f') :
    Calls Try.prog 14 #[.pointer (some ⟨d, 0, none⟩), .int .i64 x] w fun e w' => e = .returned (.int .i64 c) ∧ KPT (P2 IsR d N f' d2 g) w0 P w' ∧ Only (fun k => ¬ P k) w w' := by
  subst hc; subst hg
  obtain ⟨_, ⟨X, Y, rfl, i1, i2⟩, h2, h3, h4, h5⟩ := h
  exact (ok.clear x hx i1 h2.1).mono fun _ _ ⟨Z, e, hZ, hT⟩ => ⟨e, KPT.turn (Is := P2 IsR d N (rcF f N x) d2 g) h3 h4 h5 ⟨Z, Y, rfl, hZ, i2⟩ (TTurn.fst h2 hT)⟩
theorem set_p2 (h : KPT (P2 IsR d N f d2 g) w0 P w) (x p q : Int) (hx : InI x) (hp : InI p) (hq : InI q) (c : Int) (g' : Nat → Ownr) (hc : rsE g N x p q = c) (hg : rsF g N x p q = g') :
    Calls Try.prog 12 #[.pointer (some ⟨d2, 0, none⟩), .int .i64 x, .int .i64 p, .int .i64 q] w fun e w' => e = .returned (.int .i64 c) ∧ KPT (P2 IsR d N f d2 g') w0 P w' ∧ Only (fun k => ¬ P k) w w' :=
  (set_p1 ok h.swap x p q hx hp hq c g' hc hg).mono fun _ _ ⟨e, h, ho⟩ => ⟨e, h.swap, ho⟩
theorem clear_p2 (h : KPT (P2 IsR d N f d2 g) w0 P w) (x : Int) (hx : InI x) (c : Int) (g' : Nat → Ownr) (hc : rcE g N x = c) (hg : rcF g N x = g') :
    Calls Try.prog 14 #[.pointer (some ⟨d2, 0, none⟩), .int .i64 x] w fun e w' => e = .returned (.int .i64 c) ∧ KPT (P2 IsR d N f d2 g') w0 P w' ∧ Only (fun k => ¬ P k) w w' :=
  (clear_p1 ok h.swap x hx c g' hc hg).mono fun _ _ ⟨e, h, ho⟩ => ⟨e, h.swap, ho⟩
end
end Go.Proofs.Ytjjcbbnnilafdaa
