/-
  What the laws of stage 16 want of the landed slots, whatever way they lie.
-/
import Derived.Test.YtenfeamohcclaaaSlPure
import Derived.Test.YtenfeamohcclaaaThg
import Derived.Test.YtenfeamohcclaaaIter
import Derived.Test.YtenfeamohcclaaaLexH
import Derived.Test.YtenfeamohcclaaaKpt
namespace Go.Proofs.Ytenfeamohcclaaa
open Go.RowKit Go.Shelf Go
attribute [local go_sem] Oper.semAt_some

/-- An int that comes in. -/
abbrev InZ (p : Int) : Prop := -9223372036854775808 ≤ p ∧ p ≤ 9223372036854775807
abbrev TSeq1 : TypeId := 46
abbrev inV (x : Nat) : Array Value := #[.int .i64 x]
/-- All tells an iterator over the list. -/
def TellS (X : Thg) (L : List Nat) (w : World) (e : Ending) (w' : World) : Prop :=
  ∃ g lb own, e = .returned (.func (.func g) #[] lb) ∧ Below w.heap.size w w' ∧ (∀ args W, (callFunc g args).run Try.prog W = .ok (.enter g args) W) ∧
    (∀ W, (binOp .eql TSeq1 (.func (.func g) #[] lb) .nilFunc).run Try.prog W = .ok (.bool false) W) ∧ (∀ k, own k → (X.has k ∨ w.heap.size ≤ k) ∧ k < w'.heap.size) ∧
    Tells Try.prog g lb inV L own w'
structure SlOk (IsS : Thg → Nat → Nat → (Nat → Ownr) → Prop) : Prop where
  inv : ∀ {X d N f}, IsS X d N f → SlI f N
  new : ∀ (w : World) (n : Int), InZ n → Calls Try.prog 9 #[.int .i64 n] w fun e w' => ∃ d Y, e = .returned (.pointer (some ⟨d, 0, none⟩)) ∧ IsS Y d (capN n) (fun _ => (0, 0)) ∧ TTurn w Thg.no w' Y
  len : ∀ {X d N f w}, IsS X d N f → X.At w → Calls Try.prog 11 #[.pointer (some ⟨d, 0, none⟩)] w fun e w' => e = .returned (.int .i64 N) ∧ Below w.heap.size w w'
  take : ∀ {X d N f w} (p q : Int), InZ p → InZ q → IsS X d N f → X.At w → Calls Try.prog 12 #[.pointer (some ⟨d, 0, none⟩), .int .i64 p, .int .i64 q] w fun e w' =>
    ∃ Y, e = .returned (.tuple #[.int .i64 (stK f N p q), .int .i64 (stE f N p q)]) ∧ IsS Y d N (stF f N p q) ∧ TTurn w X w' Y
  free : ∀ {X d N f w} (x : Int), InZ x → IsS X d N f → X.At w → Calls Try.prog 14 #[.pointer (some ⟨d, 0, none⟩), .int .i64 x] w fun e w' =>
    ∃ Y, e = .returned (.int .i64 (rcE f N x)) ∧ IsS Y d N (rcF f N x) ∧ TTurn w X w' Y
  owner : ∀ {X d N f w} (x : Int), InZ x → IsS X d N f → X.At w → Calls Try.prog 17 #[.pointer (some ⟨d, 0, none⟩), .int .i64 x] w fun e w' =>
    e = .returned (.tuple #[.int .i64 (rgO f N x).1, .int .i64 (rgO f N x).2, .bool (decide ((rgO f N x).1 ≠ 0))]) ∧ Below w.heap.size w w'
  used : ∀ {X d N f w}, IsS X d N f → X.At w → Calls Try.prog 19 #[.pointer (some ⟨d, 0, none⟩)] w fun e w' => e = .returned (.int .i64 (cntB (ownB f) N)) ∧ Below w.heap.size w w'
  copy : ∀ {X d N f w}, IsS X d N f → X.At w → Calls Try.prog 16 #[.pointer (some ⟨d, 0, none⟩)] w fun e w' => ∃ d2 Y, e = .returned (.pointer (some ⟨d2, 0, none⟩)) ∧ IsS Y d2 N f ∧ TTurn w Thg.no w' Y
  all : ∀ {X d N f w}, IsS X d N f → X.At w → Calls Try.prog 20 #[.pointer (some ⟨d, 0, none⟩)] w (TellS X (allL f N) w)
/-- What is asked of slots that are not there, and of zero ones (IsZ X d: zero ones lie at d; zc: their cells). -/
structure SlNone (IsZ : Thg → Option Nat → Prop) (zc : Array Value) : Prop where
  len : ∀ {X d w}, IsZ X d → X.At w → Calls Try.prog 11 #[.pointer (d.map fun d => ⟨d, 0, none⟩)] w fun e w' => e = .returned (.int .i64 0) ∧ Below w.heap.size w w'
  take : ∀ {X d w} (p q : Int), InZ p → InZ q → IsZ X d → X.At w → Calls Try.prog 12 #[.pointer (d.map fun d => ⟨d, 0, none⟩), .int .i64 p, .int .i64 q] w fun e w' => e = .returned (.tuple #[.int .i64 0, .int .i64 1]) ∧ Below w.heap.size w w'
  free : ∀ {X d w} (x : Int), InZ x → IsZ X d → X.At w → Calls Try.prog 14 #[.pointer (d.map fun d => ⟨d, 0, none⟩), .int .i64 x] w fun e w' => e = .returned (.int .i64 1) ∧ Below w.heap.size w w'
  owner : ∀ {X d w} (x : Int), InZ x → IsZ X d → X.At w → Calls Try.prog 17 #[.pointer (d.map fun d => ⟨d, 0, none⟩), .int .i64 x] w fun e w' => e = .returned (.tuple #[.int .i64 0, .int .i64 0, .bool false]) ∧ Below w.heap.size w w'
  used : ∀ {X d w}, IsZ X d → X.At w → Calls Try.prog 19 #[.pointer (d.map fun d => ⟨d, 0, none⟩)] w fun e w' => e = .returned (.int .i64 0) ∧ Below w.heap.size w w'
  copy : ∀ {X d w}, IsZ X d → X.At w → Calls Try.prog 16 #[.pointer (d.map fun d => ⟨d, 0, none⟩)] w fun e w' => e = .returned (.pointer none) ∧ Below w.heap.size w w'
  all : ∀ {X d w}, IsZ X d → X.At w → Calls Try.prog 20 #[.pointer (d.map fun d => ⟨d, 0, none⟩)] w (TellS X [] w)
  nil : ∃ X, IsZ X none ∧ ∀ w, X.At w
  val : ∀ W, (zeroValue 53).run Try.prog W = .ok (.agg zc) W
  zero : ∀ (w : World), ∃ X, IsZ X (some w.heap.size) ∧ X.At (w.alloc (.cells zc 53)) ∧ ∀ k, X.has k → k = w.heap.size
section
variable {IsS : Thg → Nat → Nat → (Nat → Ownr) → Prop} (ok : SlOk IsS) {w0 w w' : World} {d N : Nat} {f : Nat → Ownr} {P : Nat → Prop}
include ok
theorem KPT.inv_sl (h : KPT (fun X => IsS X d N f) w0 P w) : SlI f N := by
  obtain ⟨X, h1, _⟩ := h
  exact ok.inv h1
theorem new_sl (w : World) (n : Int) (hn : InZ n) (hN : capN n = N) : Calls Try.prog 9 #[.int .i64 n] w fun e w' => ∃ d, e = .returned (.pointer (some ⟨d, 0, none⟩)) ∧ KPT (fun X => IsS X d N (fun _ => (0, 0))) w (fun _ => False) w' := by
  subst hN
  refine (ok.new w n hn).mono ?_
  rintro e w1 ⟨d, Y, rfl, hY, hT⟩
  exact ⟨d, rfl, KPT.new (Is := fun X => IsS X d (capN n) (fun _ => (0, 0))) hY hT⟩
theorem len_sl (h : KPT (fun X => IsS X d N f) w0 P w) : Calls Try.prog 11 #[.pointer (some ⟨d, 0, none⟩)] w fun e w' => e = .returned (.int .i64 N) ∧ Below w.heap.size w w' := by
  obtain ⟨X, h1, h2, _⟩ := h
  exact ok.len h1 h2
theorem used_sl (h : KPT (fun X => IsS X d N f) w0 P w) (c : Nat) (hc : cntB (ownB f) N = c) : Calls Try.prog 19 #[.pointer (some ⟨d, 0, none⟩)] w fun e w' => e = .returned (.int .i64 c) ∧ Below w.heap.size w w' := by
  subst hc
  obtain ⟨X, h1, h2, _⟩ := h
  exact ok.used h1 h2
theorem owner_sl (h : KPT (fun X => IsS X d N f) w0 P w) (x : Int) (hx : InZ x) (p q : Nat) (b : Bool) (hv : rgO f N x = (p, q)) (hb : decide (p ≠ 0) = b) :
    Calls Try.prog 17 #[.pointer (some ⟨d, 0, none⟩), .int .i64 x] w fun e w' => e = .returned (.tuple #[.int .i64 p, .int .i64 q, .bool b]) ∧ Below w.heap.size w w' := by
  subst hb
  obtain ⟨X, h1, h2, _⟩ := h
  have h5 := ok.owner x hx h1 h2
  rw [hv] at h5
  exact h5
theorem take_sl (h : KPT (fun X => IsS X d N f) w0 P w) (p q : Int) (hp : InZ p) (hq : InZ q) (k : Nat) (c : Int) (g : Nat → Ownr) (hk : stK f N p q = k) (hc : stE f N p q = c) (hg : stF f N p q = g) :
    Calls Try.prog 12 #[.pointer (some ⟨d, 0, none⟩), .int .i64 p, .int .i64 q] w fun e w' => e = .returned (.tuple #[.int .i64 k, .int .i64 c]) ∧ KPT (fun X => IsS X d N g) w0 P w' ∧ Only (fun k => ¬ P k) w w' := by
  subst hk; subst hc; subst hg
  obtain ⟨X, h1, h2, h3, h4, h5⟩ := h
  exact (ok.take p q hp hq h1 h2).mono fun _ _ ⟨Y, e, hY, hT⟩ => ⟨e, KPT.turn (Is := fun X => IsS X d N (stF f N p q)) h3 h4 h5 hY hT⟩
theorem free_sl (h : KPT (fun X => IsS X d N f) w0 P w) (x : Int) (hx : InZ x) (c : Int) (g : Nat → Ownr) (hc : rcE f N x = c) (hg : rcF f N x = g) :
    Calls Try.prog 14 #[.pointer (some ⟨d, 0, none⟩), .int .i64 x] w fun e w' => e = .returned (.int .i64 c) ∧ KPT (fun X => IsS X d N g) w0 P w' ∧ Only (fun k => ¬ P k) w w' := by
  subst hc; subst hg
  obtain ⟨X, h1, h2, h3, h4, h5⟩ := h
  exact (ok.free x hx h1 h2).mono fun _ _ ⟨Y, e, hY, hT⟩ => ⟨e, KPT.turn (Is := fun X => IsS X d N (rcF f N x)) h3 h4 h5 hY hT⟩
set_option maxRecDepth 100000 in
set_option maxHeartbeats 4000000 in
theorem sknown_any (w : World) : Calls Try.prog 8 #[] w fun e w' => e = .returned (.bool true) ∧ Below w.heap.size w w' := by
  go_enter Try.func8, Try.ntmps8
  go_wp2_with (fail)
  refine (new_sl ok w 2 (by decide) (N := 2) rfl).mono ?_
  rintro e w1 ⟨d, rfl, hK⟩
  have HK1 := Lib.hid hK
  clear hK
  go_wp2_with (fail)
  refine (take_sl ok HK1.out 1 5 (by decide) (by decide) 0 0 (updO (fun _ => (0, 0)) 0 (1, 5)) (by decide +kernel) (by decide +kernel) rfl).mono ?_
  rintro e w2 ⟨rfl, hK, _⟩
  have HK2 := Lib.hid hK
  clear hK HK1
  go_wp2_with (fail)
  refine (take_sl ok HK2.out 2 5 (by decide) (by decide) 1 0 (updO (updO (fun _ => (0, 0)) 0 (1, 5)) 1 (2, 5)) (by decide +kernel) (by decide +kernel) rfl).mono ?_
  rintro e w3 ⟨rfl, hK, _⟩
  have HK3 := Lib.hid hK
  clear hK HK2
  go_wp2_with (fail)
  refine (take_sl ok HK3.out 1 6 (by decide) (by decide) 0 9 _ (by decide +kernel) (by decide +kernel) rfl).mono ?_
  rintro e w4 ⟨rfl, hK, _⟩
  have HK4 := Lib.hid (show KPT (fun X => IsS X d 2 (updO (updO (fun _ => (0, 0)) 0 (1, 5)) 1 (2, 5))) w (fun _ => False) w4 from hK)
  clear hK HK3
  go_wp2_with (fail)
  refine (free_sl ok HK4.out 0 (by decide) 0 (updO (updO (updO (fun _ => (0, 0)) 0 (1, 5)) 1 (2, 5)) 0 (0, 0)) (by decide +kernel) (if_pos (by decide +kernel))).mono ?_
  rintro e w5 ⟨rfl, hK, _⟩
  have HK5 := Lib.hid hK
  clear hK HK4
  go_wp2_with (fail)
  refine (used_sl ok HK5.out 1 (by decide +kernel)).mono ?_
  rintro e w6 ⟨rfl, hb⟩
  have HB := Lib.hid (HK5.out.later hb).bel
  clear hb HK5
  go_wp2_with (fail)
  go_ret
  exact ⟨rfl, HB.out⟩
end
end Go.Proofs.Ytenfeamohcclaaa
