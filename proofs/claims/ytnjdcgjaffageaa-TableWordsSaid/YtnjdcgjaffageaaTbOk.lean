/-
  What the laws of stage 14 want of the landed table and of the memory that it stands on (of four frames; the root is the frame 0, leaves are 1 to 3).
-/
import Derived.Test.YtnjdcgjaffageaaTbPure
import Derived.Test.YtnjdcgjaffageaaThg
import Derived.Test.YtnjdcgjaffageaaIter
import Derived.Test.YtnjdcgjaffageaaCfgK
import Derived.Test.YtnjdcgjaffageaaLexH
namespace Go.Proofs.Ytnjdcgjaffageaa
open Go.RowKit Go.Shelf Go

abbrev TEnt : TypeId := 23
abbrev TSeq2 : TypeId := 50
abbrev entA (x : Ent) : Value := .agg #[.int .u8 x.1, .int .i64 x.2]
/-- An int that comes in. -/
abbrev InI (p : Int) : Prop := -9223372036854775808 ≤ p ∧ p ≤ 9223372036854775807
def four0 (i : Nat) : Int := if i = 0 then 1 else if i = 1 then 1 else 0
def fourG (i : Nat) : Int := if i = 0 then 1 else if i = 1 then 1 else if i = 18 then 4 else 0
abbrev lfV (x : Nat × Nat) : Array Value := #[.int .i64 x.1, .int .i64 x.2]
/-- Leaves tells an iterator over the list. -/
def TellQ (X : Thg) (L : List (Nat × Nat)) (w : World) (e : Ending) (w' : World) : Prop :=
  ∃ g lb own, e = .returned (.func (.func g) #[] lb) ∧ Below w.heap.size w w' ∧ (∀ args W, (callFunc g args).run Try.prog W = .ok (.enter g args) W) ∧
    (∀ W, (binOp .eql TSeq2 (.func (.func g) #[] lb) .nilFunc).run Try.prog W = .ok (.bool false) W) ∧ (∀ k, own k → (X.has k ∨ w.heap.size ≤ k) ∧ k < w'.heap.size) ∧
    Tells Try.prog g lb lfV L own w'
structure WordOk : Prop where
  word : ∀ (w : World) (k : Nat) (n : Int), k < 256 → InI n → Calls Try.prog 6 #[.agg #[.int .u8 k, .int .i64 n]] w fun e w' =>
    e = .returned (.tuple #[.int .u64 (wordV (k, n)), .int .i64 (wordE (k, n))]) ∧ Below w.heap.size w w'
  entry : ∀ (w : World) (x : Nat), x < 18446744073709551616 → Calls Try.prog 8 #[.int .u64 x] w fun e w' =>
    e = .returned (.tuple #[.agg #[.int .u8 (entV x).1, .int .i64 (entV x).2], .int .i64 (entE x)]) ∧ Below w.heap.size w w'
structure TabOk (IsT : Thg → Nat → (Nat → Nat) → (Nat → Nat → Ent) → Prop) : Prop extends WordOk where
  made : ∀ (w : World) (A : Array Value), Cfg A fourG → Calls Try.prog 11 #[.agg A] w fun e w' =>
    ∃ m Y, e = .returned (.tuple #[.pointer (some ⟨m, 0, none⟩), .int .i64 0]) ∧ IsT Y m (fun _ => 0) (fun _ _ => (0, 0)) ∧ TTurn w Thg.no w' Y
  setLeaf : ∀ {X m R E w} (p : Int) (l : Nat), InI p → l ≤ 3 → IsT X m R E → X.At w → Calls Try.prog 13 #[.pointer (some ⟨m, 0, none⟩), .int .i64 0, .int .i64 p, .int .i64 (if l = 0 then -1 else (l : Int))] w fun e w' =>
    ∃ Y, e = .returned (.int .i64 (if Pg p then 0 else 2)) ∧ IsT Y m (if Pg p then setR R (p.toNat / 32) l else R) E ∧ TTurn w X w' Y
  set : ∀ {X m R E w} (p : Int) (k : Nat) (n : Int), InI p → k < 256 → InI n → IsT X m R E → X.At w → Calls Try.prog 14 #[.pointer (some ⟨m, 0, none⟩), .int .i64 0, .int .i64 p, .agg #[.int .u8 k, .int .i64 n]] w fun e w' =>
    ∃ Y, e = .returned (.int .i64 (if Pg p ∧ entOk (k, n) then (if R (p.toNat / 32) = 0 then 7 else 0) else 2)) ∧
      IsT Y m R (if Pg p ∧ entOk (k, n) ∧ R (p.toNat / 32) ≠ 0 then setX E (R (p.toNat / 32)) (p.toNat % 32) (k, n) else E) ∧ TTurn w X w' Y
  get : ∀ {X m R E w} (p : Nat), p < 1024 → IsT X m R E → X.At w → Calls Try.prog 15 #[.pointer (some ⟨m, 0, none⟩), .int .i64 0, .int .i64 p] w fun e w' =>
    e = .returned (.tuple #[.agg #[.int .u8 (getX R E p).1, .int .i64 (getX R E p).2], .int .i64 0]) ∧ Below w.heap.size w w'
  leaves : ∀ {X m R E w}, IsT X m R E → X.At w → Calls Try.prog 16 #[.pointer (some ⟨m, 0, none⟩), .int .i64 0] w (TellQ X (leafL R 32) w)
/-- The memory, in a world of the law's: it lies from block B on. -/
def MK (IsT : Thg → Nat → (Nat → Nat) → (Nat → Nat → Ent) → Prop) (w0 : World) (m : Nat) (R : Nat → Nat) (E : Nat → Nat → Ent) (w : World) : Prop := ∃ X, IsT X m R E ∧ X.At w ∧ Below w0.heap.size w0 w ∧ ∀ k, X.has k → w0.heap.size ≤ k
section
variable {IsT : Thg → Nat → (Nat → Nat) → (Nat → Nat → Ent) → Prop} (ok : TabOk IsT) {w0 w w' : World} {m : Nat} {R : Nat → Nat} {E : Nat → Nat → Ent}
theorem MK.bel (h : MK IsT w0 m R E w) : Below w0.heap.size w0 w := by
  obtain ⟨X, _, _, h, _⟩ := h
  exact h
theorem MK.later (h : MK IsT w0 m R E w) (hb : Below w.heap.size w w') : MK IsT w0 m R E w' := by
  obtain ⟨X, h1, h2, h3, h4⟩ := h
  exact ⟨X, h1, X.later h2 hb, h3.trans (hb.mono h3.size), h4⟩
theorem MK.turn {X Y : Thg} {R' : Nat → Nat} {E' : Nat → Nat → Ent} (h3 : Below w0.heap.size w0 w) (h4 : ∀ k, X.has k → w0.heap.size ≤ k) (hY : IsT Y m R' E') (hT : TTurn w X w' Y) : MK IsT w0 m R' E' w' :=
  ⟨Y, hY, hT.at', hT.only.below h3 h3.size h4, fun k hk => (hT.new k hk).elim (h4 k) (fun h => Nat.le_trans h3.size h)⟩
include ok
theorem made_mk (w : World) (A : Array Value) (h : Cfg A fourG) : Calls Try.prog 11 #[.agg A] w fun e w' => ∃ m, e = .returned (.tuple #[.pointer (some ⟨m, 0, none⟩), .int .i64 0]) ∧ MK IsT w m (fun _ => 0) (fun _ _ => (0, 0)) w' := by
  refine (ok.made w A h).mono ?_
  rintro e w1 ⟨m, Y, rfl, hY, hT⟩
  exact ⟨m, rfl, MK.turn (X := Thg.no) (Below.refl _ _) (fun k hk => False.elim hk) hY hT⟩
theorem setLeaf_mk (h : MK IsT w0 m R E w) (p li : Int) (l : Nat) (hp : InI p) (hl : l ≤ 3) (e : li = if l = 0 then -1 else (l : Int)) : Calls Try.prog 13 #[.pointer (some ⟨m, 0, none⟩), .int .i64 0, .int .i64 p, .int .i64 li] w fun e w' =>
    e = .returned (.int .i64 (if Pg p then 0 else 2)) ∧ MK IsT w0 m (if Pg p then setR R (p.toNat / 32) l else R) E w' := by
  subst e
  obtain ⟨X, h1, h2, h3, h4⟩ := h
  exact (ok.setLeaf p l hp hl h1 h2).mono fun _ _ ⟨Y, e, hY, hT⟩ => ⟨e, MK.turn h3 h4 hY hT⟩
theorem set_mk (h : MK IsT w0 m R E w) (p ki : Int) (k : Nat) (n : Int) (ek : ki = k) (hp : InI p) (hk : k < 256) (hn : InI n) : Calls Try.prog 14 #[.pointer (some ⟨m, 0, none⟩), .int .i64 0, .int .i64 p, .agg #[.int .u8 ki, .int .i64 n]] w fun e w' =>
    e = .returned (.int .i64 (if Pg p ∧ entOk (k, n) then (if R (p.toNat / 32) = 0 then 7 else 0) else 2)) ∧
      MK IsT w0 m R (if Pg p ∧ entOk (k, n) ∧ R (p.toNat / 32) ≠ 0 then setX E (R (p.toNat / 32)) (p.toNat % 32) (k, n) else E) w' := by
  subst ek
  obtain ⟨X, h1, h2, h3, h4⟩ := h
  exact (ok.set p k n hp hk hn h1 h2).mono fun _ _ ⟨Y, e, hY, hT⟩ => ⟨e, MK.turn h3 h4 hY hT⟩
theorem get_mk (h : MK IsT w0 m R E w) (p : Nat) (pi : Int) (ep : pi = p) (hp : p < 1024) (k : Nat) (n : Int) (hx : getX R E p = (k, n)) : Calls Try.prog 15 #[.pointer (some ⟨m, 0, none⟩), .int .i64 0, .int .i64 pi] w fun e w' =>
    e = .returned (.tuple #[.agg #[.int .u8 k, .int .i64 n], .int .i64 0]) ∧ Below w.heap.size w w' := by
  subst ep
  obtain ⟨X, h1, h2, _⟩ := h
  have h5 := ok.get p hp h1 h2
  rw [hx] at h5
  exact h5
end
end Go.Proofs.Ytnjdcgjaffageaa
