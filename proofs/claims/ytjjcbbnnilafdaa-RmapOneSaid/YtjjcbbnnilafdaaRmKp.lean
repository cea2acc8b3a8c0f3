/-
  rmap's laws: the map beside blocks of the law's own; its calls.
-/
import Derived.Test.YtjjcbbnnilafdaaRmKnown
import Derived.Test.YtjjcbbnnilafdaaKpt
namespace Go.Proofs.Ytjjcbbnnilafdaa
open Go.RowKit Go.Shelf Go

section
variable {IsR : Thg → Nat → Nat → (Nat → Ownr) → Prop} (ok : RmOk IsR) {w0 w w' : World} {d N : Nat} {f : Nat → Ownr} {P : Nat → Prop}
theorem KPT.rk (h : KPT (fun X => IsR X d N f) w0 P w) : RK IsR w0 d N f w := by
  obtain ⟨X, h1, h2, h3, h4, _⟩ := h
  exact ⟨X, h1, h2, h3, fun k hk => (h4 k hk).1⟩
/-- Of tells: nothing of the law's is the iterator's. -/
def TellK (P : Nat → Prop) (L : List (Nat × Nat)) (w : World) (e : Ending) (w' : World) : Prop :=
  ∃ g lb own, e = .returned (.func (.func g) #[] lb) ∧ Below w.heap.size w w' ∧ (∀ args W, (callFunc g args).run Try.prog W = .ok (.enter g args) W) ∧
    (∀ W, (binOp .eql TSeq2 (.func (.func g) #[] lb) .nilFunc).run Try.prog W = .ok (.bool false) W) ∧ (∀ k, own k → k < w'.heap.size ∧ ¬ P k) ∧
    Tells Try.prog g lb pfV L own w'
include ok
theorem KPT.inv_rm (h : KPT (fun X => IsR X d N f) w0 P w) : RmI f N := by
  obtain ⟨X, h1, _⟩ := h
  exact ok.inv h1
theorem set_kp (h : KPT (fun X => IsR X d N f) w0 P w) (x p q : Int) (hx : InI x) (hp : InI p) (hq : InI q) (c : Int) (g : Nat → Ownr) (hc : rsE f N x p q = c) (hg : rsF f N x p q = g) :
    Calls Try.prog 12 #[.pointer (some ⟨d, 0, none⟩), .int .i64 x, .int .i64 p, .int .i64 q] w fun e w' => e = .returned (.int .i64 c) ∧ KPT (fun X => IsR X d N g) w0 P w' ∧ Only (fun k => ¬ P k) w w' := by
  subst hc; subst hg
  obtain ⟨X, h1, h2, h3, h4, h5⟩ := h
  exact (ok.set x p q hx hp hq h1 h2).mono fun _ _ ⟨Y, e, hY, hT⟩ => ⟨e, KPT.turn (Is := fun X => IsR X d N (rsF f N x p q)) h3 h4 h5 hY hT⟩
theorem clear_kp (h : KPT (fun X => IsR X d N f) w0 P w) (x : Int) (hx : InI x) (c : Int) (g : Nat → Ownr) (hc : rcE f N x = c) (hg : rcF f N x = g) :
    Calls Try.prog 14 #[.pointer (some ⟨d, 0, none⟩), .int .i64 x] w fun e w' => e = .returned (.int .i64 c) ∧ KPT (fun X => IsR X d N g) w0 P w' ∧ Only (fun k => ¬ P k) w w' := by
  subst hc; subst hg
  obtain ⟨X, h1, h2, h3, h4, h5⟩ := h
  exact (ok.clear x hx h1 h2).mono fun _ _ ⟨Y, e, hY, hT⟩ => ⟨e, KPT.turn (Is := fun X => IsR X d N (rcF f N x)) h3 h4 h5 hY hT⟩
theorem of_kp (h : KPT (fun X => IsR X d N f) w0 P w) (p : Int) (hp : InI p) (L : List (Nat × Nat)) (hL : ofL f N p 1024 = L) :
    Calls Try.prog 19 #[.pointer (some ⟨d, 0, none⟩), .int .i64 p] w (TellK P L w) := by
  subst hL
  obtain ⟨X, h1, h2, h3, h4, h5⟩ := h
  refine (ok.of p hp h1 h2).mono ?_
  rintro e w' ⟨g, lb, own, e1, e2, e3, e4, e5, e6⟩
  refine ⟨g, lb, own, e1, e2, e3, e4, fun k hk => ⟨(e5 k hk).2, fun hq => ?_⟩, e6⟩
  rcases (e5 k hk).1 with h | h
  · exact (h4 k h).2 hq
  · have := h5 k hq
    omega
end
end Go.Proofs.Ytjjcbbnnilafdaa
