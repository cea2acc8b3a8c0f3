/-
  What the laws of stage 17 want of the landed clock, whatever way it lies.
-/
import Derived.Test.YtndddfkebbeemaaClPure
import Derived.Test.YtndddfkebbeemaaThg
import Derived.Test.YtndddfkebbeemaaIter
import Derived.Test.YtndddfkebbeemaaLexH
import Derived.Test.YtndddfkebbeemaaKpt
namespace Go.Proofs.Ytndddfkebbeemaa
open Go.RowKit Go.Shelf Go
attribute [local go_sem] Oper.semAt_some

/-- An int that comes in. -/
abbrev InZ (p : Int) : Prop := -9223372036854775808 ≤ p ∧ p ≤ 9223372036854775807
abbrev TSeq1 : TypeId := 42
abbrev inV (x : Nat) : Array Value := #[.int .i64 x]
/-- All tells an iterator over the list. -/
def TellS (X : Thg) (L : List Nat) (w : World) (e : Ending) (w' : World) : Prop :=
  ∃ g lb own, e = .returned (.func (.func g) #[] lb) ∧ Below w.heap.size w w' ∧ (∀ args W, (callFunc g args).run Try.prog W = .ok (.enter g args) W) ∧
    (∀ W, (binOp .eql TSeq1 (.func (.func g) #[] lb) .nilFunc).run Try.prog W = .ok (.bool false) W) ∧ (∀ k, own k → (X.has k ∨ w.heap.size ≤ k) ∧ k < w'.heap.size) ∧
    Tells Try.prog g lb inV L own w'
structure ClOk (IsC : Thg → Nat → List Fr → Prop) : Prop where
  inv : ∀ {X d L}, IsC X d L → ClI L
  new : ∀ (w : World), Calls Try.prog 10 #[] w fun e w' => ∃ d Y, e = .returned (.pointer (some ⟨d, 0, none⟩)) ∧ IsC Y d [] ∧ TTurn w Thg.no w' Y
  add : ∀ {X d L w} (x : Int), InZ x → L.length < 1000 → IsC X d L → X.At w → Calls Try.prog 11 #[.pointer (some ⟨d, 0, none⟩), .int .i64 x] w fun e w' =>
    ∃ Y, e = .returned (.int .i64 (addE L x)) ∧ IsC Y d (addL L x) ∧ TTurn w X w' Y
  remove : ∀ {X d L w} (x : Int), InZ x → IsC X d L → X.At w → Calls Try.prog 13 #[.pointer (some ⟨d, 0, none⟩), .int .i64 x] w fun e w' =>
    ∃ Y, e = .returned (.int .i64 (noE L x)) ∧ IsC Y d (remL L x) ∧ TTurn w X w' Y
  touch : ∀ {X d L w} (x : Int), InZ x → IsC X d L → X.At w → Calls Try.prog 15 #[.pointer (some ⟨d, 0, none⟩), .int .i64 x] w fun e w' =>
    ∃ Y, e = .returned (.int .i64 (noE L x)) ∧ IsC Y d (touL L x) ∧ TTurn w X w' Y
  next : ∀ {X d L w}, IsC X d L → X.At w → Calls Try.prog 17 #[.pointer (some ⟨d, 0, none⟩)] w fun e w' =>
    ∃ Y, e = .returned (.tuple #[.int .i64 (nextL L).1.1, .bool (nextL L).1.2]) ∧ IsC Y d (nextL L).2 ∧ TTurn w X w' Y
  len : ∀ {X d L w}, IsC X d L → X.At w → Calls Try.prog 21 #[.pointer (some ⟨d, 0, none⟩)] w fun e w' => e = .returned (.int .i64 L.length) ∧ Below w.heap.size w w'
  active : ∀ {X d L w}, IsC X d L → X.At w → Calls Try.prog 24 #[.pointer (some ⟨d, 0, none⟩)] w fun e w' => e = .returned (.int .i64 (actL L)) ∧ Below w.heap.size w w'
  has : ∀ {X d L w} (x : Int), InZ x → IsC X d L → X.At w → Calls Try.prog 22 #[.pointer (some ⟨d, 0, none⟩), .int .i64 x] w fun e w' => e = .returned (.bool (hasL L x)) ∧ Below w.heap.size w w'
  copy : ∀ {X d L w}, IsC X d L → X.At w → Calls Try.prog 19 #[.pointer (some ⟨d, 0, none⟩)] w fun e w' => ∃ d2 Y, e = .returned (.pointer (some ⟨d2, 0, none⟩)) ∧ IsC Y d2 L ∧ TTurn w Thg.no w' Y
  all : ∀ {X d L w}, IsC X d L → X.At w → Calls Try.prog 23 #[.pointer (some ⟨d, 0, none⟩)] w (TellS X (namesL L) w)
/-- What is asked of a clock that is not there, and of a zero one (IsZ X d: a zero one lies at d; zc: its cells). -/
structure ClNone (IsZ : Thg → Option Nat → Prop) (zc : Array Value) : Prop where
  add : ∀ {X d w} (x : Int), InZ x → IsZ X d → X.At w → Calls Try.prog 11 #[.pointer (d.map fun d => ⟨d, 0, none⟩), .int .i64 x] w fun e w' => e = .returned (.int .i64 1) ∧ Below w.heap.size w w'
  remove : ∀ {X d w} (x : Int), InZ x → IsZ X d → X.At w → Calls Try.prog 13 #[.pointer (d.map fun d => ⟨d, 0, none⟩), .int .i64 x] w fun e w' => e = .returned (.int .i64 1) ∧ Below w.heap.size w w'
  touch : ∀ {X d w} (x : Int), InZ x → IsZ X d → X.At w → Calls Try.prog 15 #[.pointer (d.map fun d => ⟨d, 0, none⟩), .int .i64 x] w fun e w' => e = .returned (.int .i64 1) ∧ Below w.heap.size w w'
  next : ∀ {X d w}, IsZ X d → X.At w → Calls Try.prog 17 #[.pointer (d.map fun d => ⟨d, 0, none⟩)] w fun e w' => e = .returned (.tuple #[.int .i64 0, .bool false]) ∧ Below w.heap.size w w'
  len : ∀ {X d w}, IsZ X d → X.At w → Calls Try.prog 21 #[.pointer (d.map fun d => ⟨d, 0, none⟩)] w fun e w' => e = .returned (.int .i64 0) ∧ Below w.heap.size w w'
  active : ∀ {X d w}, IsZ X d → X.At w → Calls Try.prog 24 #[.pointer (d.map fun d => ⟨d, 0, none⟩)] w fun e w' => e = .returned (.int .i64 0) ∧ Below w.heap.size w w'
  has : ∀ {X d w} (x : Int), InZ x → IsZ X d → X.At w → Calls Try.prog 22 #[.pointer (d.map fun d => ⟨d, 0, none⟩), .int .i64 x] w fun e w' => e = .returned (.bool false) ∧ Below w.heap.size w w'
  copy : ∀ {X d w}, IsZ X d → X.At w → Calls Try.prog 19 #[.pointer (d.map fun d => ⟨d, 0, none⟩)] w fun e w' => e = .returned (.pointer none) ∧ Below w.heap.size w w'
  all : ∀ {X d w}, IsZ X d → X.At w → Calls Try.prog 23 #[.pointer (d.map fun d => ⟨d, 0, none⟩)] w (TellS X [] w)
  nil : ∃ X, IsZ X none ∧ ∀ w, X.At w
  val : ∀ W, (zeroValue 48).run Try.prog W = .ok (.agg zc) W
  zero : ∀ (w : World), ∃ X, IsZ X (some w.heap.size) ∧ X.At (w.alloc (.cells zc 48)) ∧ ∀ k, X.has k → k = w.heap.size
section
variable {IsC : Thg → Nat → List Fr → Prop} (ok : ClOk IsC) {w0 w w' : World} {d : Nat} {L : List Fr} {P : Nat → Prop}
include ok
theorem KPT.inv_cl (h : KPT (fun X => IsC X d L) w0 P w) : ClI L := by
  obtain ⟨X, h1, _⟩ := h
  exact ok.inv h1
theorem new_cl (w : World) : Calls Try.prog 10 #[] w fun e w' => ∃ d, e = .returned (.pointer (some ⟨d, 0, none⟩)) ∧ KPT (fun X => IsC X d []) w (fun _ => False) w' := by
  refine (ok.new w).mono ?_
  rintro e w1 ⟨d, Y, rfl, hY, hT⟩
  exact ⟨d, rfl, KPT.new (Is := fun X => IsC X d []) hY hT⟩
theorem len_cl (h : KPT (fun X => IsC X d L) w0 P w) : Calls Try.prog 21 #[.pointer (some ⟨d, 0, none⟩)] w fun e w' => e = .returned (.int .i64 L.length) ∧ Below w.heap.size w w' := by
  obtain ⟨X, h1, h2, _⟩ := h
  exact ok.len h1 h2
theorem active_cl (h : KPT (fun X => IsC X d L) w0 P w) : Calls Try.prog 24 #[.pointer (some ⟨d, 0, none⟩)] w fun e w' => e = .returned (.int .i64 (actL L)) ∧ Below w.heap.size w w' := by
  obtain ⟨X, h1, h2, _⟩ := h
  exact ok.active h1 h2
theorem has_cl (h : KPT (fun X => IsC X d L) w0 P w) (x : Int) (hx : InZ x) (b : Bool) (hb : hasL L x = b) : Calls Try.prog 22 #[.pointer (some ⟨d, 0, none⟩), .int .i64 x] w fun e w' => e = .returned (.bool b) ∧ Below w.heap.size w w' := by
  subst hb
  obtain ⟨X, h1, h2, _⟩ := h
  exact ok.has x hx h1 h2
theorem add_cl (h : KPT (fun X => IsC X d L) w0 P w) (x : Int) (hx : InZ x) (hl : L.length < 1000) (c : Int) (M : List Fr) (hc : addE L x = c) (hM : addL L x = M) :
    Calls Try.prog 11 #[.pointer (some ⟨d, 0, none⟩), .int .i64 x] w fun e w' => e = .returned (.int .i64 c) ∧ KPT (fun X => IsC X d M) w0 P w' ∧ Only (fun k => ¬ P k) w w' := by
  subst hc; subst hM
  obtain ⟨X, h1, h2, h3, h4, h5⟩ := h
  exact (ok.add x hx hl h1 h2).mono fun _ _ ⟨Y, e, hY, hT⟩ => ⟨e, KPT.turn (Is := fun X => IsC X d (addL L x)) h3 h4 h5 hY hT⟩
theorem remove_cl (h : KPT (fun X => IsC X d L) w0 P w) (x : Int) (hx : InZ x) (c : Int) (M : List Fr) (hc : noE L x = c) (hM : remL L x = M) :
    Calls Try.prog 13 #[.pointer (some ⟨d, 0, none⟩), .int .i64 x] w fun e w' => e = .returned (.int .i64 c) ∧ KPT (fun X => IsC X d M) w0 P w' ∧ Only (fun k => ¬ P k) w w' := by
  subst hc; subst hM
  obtain ⟨X, h1, h2, h3, h4, h5⟩ := h
  exact (ok.remove x hx h1 h2).mono fun _ _ ⟨Y, e, hY, hT⟩ => ⟨e, KPT.turn (Is := fun X => IsC X d (remL L x)) h3 h4 h5 hY hT⟩
theorem touch_cl (h : KPT (fun X => IsC X d L) w0 P w) (x : Int) (hx : InZ x) (c : Int) (M : List Fr) (hc : noE L x = c) (hM : touL L x = M) :
    Calls Try.prog 15 #[.pointer (some ⟨d, 0, none⟩), .int .i64 x] w fun e w' => e = .returned (.int .i64 c) ∧ KPT (fun X => IsC X d M) w0 P w' ∧ Only (fun k => ¬ P k) w w' := by
  subst hc; subst hM
  obtain ⟨X, h1, h2, h3, h4, h5⟩ := h
  exact (ok.touch x hx h1 h2).mono fun _ _ ⟨Y, e, hY, hT⟩ => ⟨e, KPT.turn (Is := fun X => IsC X d (touL L x)) h3 h4 h5 hY hT⟩
theorem next_cl (h : KPT (fun X => IsC X d L) w0 P w) (n : Nat) (b : Bool) (M : List Fr) (hv : nextL L = ((n, b), M)) :
    Calls Try.prog 17 #[.pointer (some ⟨d, 0, none⟩)] w fun e w' => e = .returned (.tuple #[.int .i64 n, .bool b]) ∧ KPT (fun X => IsC X d M) w0 P w' ∧ Only (fun k => ¬ P k) w w' := by
  obtain ⟨X, h1, h2, h3, h4, h5⟩ := h
  refine (ok.next h1 h2).mono fun e w1 ⟨Y, he, hY, hT⟩ => ?_
  rw [hv] at he hY
  exact ⟨he, KPT.turn (Is := fun X => IsC X d M) h3 h4 h5 hY hT⟩
set_option maxRecDepth 100000 in
set_option maxHeartbeats 4000000 in
theorem cknown_any (w : World) : Calls Try.prog 9 #[] w fun e w' => e = .returned (.bool true) ∧ Below w.heap.size w w' := by
  go_enter Try.func9, Try.ntmps9
  go_wp2_with (fail)
  refine (new_cl ok w).mono ?_
  rintro e w1 ⟨d, rfl, hK⟩
  have HK1 := Lib.hid hK
  clear hK
  go_wp2_with (fail)
  refine (add_cl ok HK1.out 1 (by decide) (by decide) 0 [(1, true, true)] (by decide +kernel) (by decide +kernel)).mono ?_
  rintro e w2 ⟨rfl, hK, _⟩
  have HK2 := Lib.hid hK
  clear hK HK1
  go_wp2_with (fail)
  refine (add_cl ok HK2.out 2 (by decide) (by decide) 0 [(1, true, true), (2, true, true)] (by decide +kernel) (by decide +kernel)).mono ?_
  rintro e w3 ⟨rfl, hK, _⟩
  have HK3 := Lib.hid hK
  clear hK HK2
  go_wp2_with (fail)
  refine (add_cl ok HK3.out 3 (by decide) (by decide) 0 [(1, true, true), (2, true, true), (3, true, true)] (by decide +kernel) (by decide +kernel)).mono ?_
  rintro e w4 ⟨rfl, hK, _⟩
  have HK4 := Lib.hid hK
  clear hK HK3
  go_wp2_with (fail)
  refine (next_cl ok HK4.out 1 true [(2, false, false), (3, false, false), (1, false, false)] (by decide +kernel)).mono ?_
  rintro e w5 ⟨rfl, hK, _⟩
  have HK5 := Lib.hid hK
  clear hK HK4
  go_wp2_with (fail)
  refine (touch_cl ok HK5.out 2 (by decide) 0 [(2, false, true), (3, false, false), (1, false, false)] (by decide +kernel) (by decide +kernel)).mono ?_
  rintro e w6 ⟨rfl, hK, _⟩
  have HK6 := Lib.hid hK
  clear hK HK5
  go_wp2_with (fail)
  refine (next_cl ok HK6.out 3 true [(1, false, false), (2, true, false), (3, false, false)] (by decide +kernel)).mono ?_
  rintro e w7 ⟨rfl, hK, _⟩
  have HK7 := Lib.hid hK
  clear hK HK6
  go_wp2_with (fail)
  refine (next_cl ok HK7.out 1 true [(2, true, false), (3, false, false), (1, false, false)] (by decide +kernel)).mono ?_
  rintro e w8 ⟨rfl, hK, _⟩
  have HK8 := Lib.hid hK
  clear hK HK7
  go_wp2_with (fail)
  refine (len_cl ok HK8.out).mono ?_
  rintro e w9 ⟨rfl, hb⟩
  have HB := Lib.hid (HK8.out.later hb).bel
  clear hb HK8
  go_wp2_with (fail)
  go_ret
  exact ⟨rfl, HB.out⟩
end
end Go.Proofs.Ytndddfkebbeemaa
