/-
  A thing of the program's in a world of a law's: it lies from w0's end on, beside blocks of the law's own (P). Of no program.
-/
import Derived.Test.YtndddfkebbeemaaThg
namespace Go.Proofs.Ytndddfkebbeemaa
open Go.RowKit Go

def KPT (Is : Thg → Prop) (w0 : World) (P : Nat → Prop) (w : World) : Prop :=
  ∃ X, Is X ∧ X.At w ∧ Below w0.heap.size w0 w ∧ (∀ k, X.has k → w0.heap.size ≤ k ∧ ¬ P k) ∧ ∀ k, P k → k < w.heap.size
section
variable {Is Is' : Thg → Prop} {w0 w w' : World} {P Q S : Nat → Prop}
theorem TTurn.below_no {X : Thg} (h : TTurn w Thg.no w' X) : Below w.heap.size w w' := ⟨h.only.os, h.only.tape, h.only.output, h.only.size, fun k hk => h.only.block k hk (fun h => h)⟩
theorem TTurn.new_no {X : Thg} (h : TTurn w Thg.no w' X) {k : Nat} (hk : X.has k) : w.heap.size ≤ k := (h.new k hk).elim (fun h => h.elim) id
theorem KPT.bel (h : KPT Is w0 P w) : Below w0.heap.size w0 w := by
  obtain ⟨X, _, _, h, _⟩ := h
  exact h
theorem KPT.lt (h : KPT Is w0 P w) {k : Nat} (hk : P k) : k < w.heap.size := by
  obtain ⟨X, _, _, _, _, h⟩ := h
  exact h k hk
theorem KPT.new {X : Thg} (hI : Is X) (hT : TTurn w Thg.no w' X) : KPT Is w (fun _ => False) w' :=
  ⟨X, hI, hT.at', hT.below_no, fun _ hk => ⟨hT.new_no hk, fun h => h⟩, fun _ h => h.elim⟩
theorem KPT.imp (h : KPT Is w0 P w) (hi : ∀ X, Is X → Is' X) : KPT Is' w0 P w := by
  obtain ⟨X, h1, h2⟩ := h
  exact ⟨X, hi X h1, h2⟩
theorem KPT.later (h : KPT Is w0 P w) (hb : Below w.heap.size w w') : KPT Is w0 P w' := by
  obtain ⟨X, h1, h2, h3, h4, h5⟩ := h
  exact ⟨X, h1, X.later h2 hb, h3.trans (hb.mono h3.size), h4, fun k hk => Nat.lt_of_lt_of_le (h5 k hk) hb.size⟩
/-- New blocks are the law's, old ones need be no more. -/
theorem KPT.add (h : KPT Is w0 P w) (hb : Below w.heap.size w w') (hw : ∀ k, Q k → P k ∨ w.heap.size ≤ k ∧ k < w'.heap.size) : KPT Is w0 Q w' := by
  obtain ⟨X, h1, h2, h3, h4, h5⟩ := h
  refine ⟨X, h1, X.later h2 hb, h3.trans (hb.mono h3.size), fun k hk => ⟨(h4 k hk).1, fun hq => ?_⟩, fun k hk => ?_⟩
  · rcases hw k hq with h | ⟨h, _⟩
    · exact (h4 k hk).2 h
    · have := X.lt w h2 k hk
      omega
  · rcases hw k hk with h | ⟨_, h⟩
    · exact Nat.lt_of_lt_of_le (h5 k h) hb.size
    · exact h
/-- The law's own blocks turn. -/
theorem KPT.own (h : KPT Is w0 P w) (ho : Only S w w') (hS : ∀ k, S k → P k) (hlo : ∀ k, S k → w0.heap.size ≤ k) : KPT Is w0 P w' := by
  obtain ⟨X, h1, h2, h3, h4, h5⟩ := h
  exact ⟨X, h1, X.only S w w' h2 ho (fun k hk hs => (h4 k hk).2 (hS k hs)), ho.below h3 h3.size hlo, h4, fun k hk => Nat.lt_of_lt_of_le (h5 k hk) ho.size⟩
/-- Both at once. -/
theorem KPT.more (h : KPT Is w0 P w) (ho : Only S w w') (hS : ∀ k, S k → P k) (hlo : ∀ k, S k → w0.heap.size ≤ k) (hw : ∀ k, Q k → P k ∨ w.heap.size ≤ k ∧ k < w'.heap.size) : KPT Is w0 Q w' := by
  obtain ⟨X, h1, h2, h3, h4, h5⟩ := h
  refine ⟨X, h1, X.only S w w' h2 ho (fun k hk hs => (h4 k hk).2 (hS k hs)), ho.below h3 h3.size hlo, fun k hk => ⟨(h4 k hk).1, fun hq => ?_⟩, fun k hk => ?_⟩
  · rcases hw k hq with h | ⟨h, _⟩
    · exact (h4 k hk).2 h
    · have := X.lt w h2 k hk
      omega
  · rcases hw k hk with h | ⟨_, h⟩
    · exact Nat.lt_of_lt_of_le (h5 k h) ho.size
    · exact h
/-- It turns. -/
theorem KPT.turn {X Y : Thg} (h3 : Below w0.heap.size w0 w) (h4 : ∀ k, X.has k → w0.heap.size ≤ k ∧ ¬ P k) (h5 : ∀ k, P k → k < w.heap.size) (hY : Is Y) (hT : TTurn w X w' Y) :
    KPT Is w0 P w' ∧ Only (fun k => ¬ P k) w w' := by
  refine ⟨⟨Y, hY, hT.at', hT.only.below h3 h3.size (fun k hk => (h4 k hk).1), fun k hk => ?_, fun k hk => Nat.lt_of_lt_of_le (h5 k hk) hT.only.size⟩, hT.only.mono (fun k hk => (h4 k hk).2)⟩
  rcases hT.new k hk with h | h
  · exact h4 k h
  · refine ⟨Nat.le_trans h3.size h, fun hp => ?_⟩
    have := h5 k hp
    omega
/-- Two things, apart, are one. -/
def Thg.two (X Y : Thg) : Thg where
  At w := X.At w ∧ Y.At w ∧ ∀ k, X.has k → ¬ Y.has k
  has k := X.has k ∨ Y.has k
  only := fun _ _ _ h ho hs => ⟨X.only _ _ _ h.1 ho (fun k hk => hs k (.inl hk)), Y.only _ _ _ h.2.1 ho (fun k hk => hs k (.inr hk)), h.2.2⟩
  lt := fun w h k hk => hk.elim (X.lt w h.1 k) (Y.lt w h.2.1 k)
/-- One of them turns. -/
theorem TTurn.fst {X Y Z : Thg} (h : (X.two Y).At w) (hT : TTurn w X w' Z) : TTurn w (X.two Y) w' (Z.two Y) := by
  refine ⟨⟨hT.at', Y.only _ _ _ h.2.1 hT.only (fun k hk hx => h.2.2 k hx hk), fun k hz hy => ?_⟩, hT.only.mono (fun k hk => .inl hk), fun k hk => ?_⟩
  · rcases hT.new k hz with h1 | h1
    · exact h.2.2 k h1 hy
    · have := Y.lt w h.2.1 k hy
      omega
  · rcases hk with h1 | h1
    · exact (hT.new k h1).imp .inl id
    · exact .inl (.inr h1)
theorem TTurn.snd {X Y Z : Thg} (h : (X.two Y).At w) (hT : TTurn w Y w' Z) : TTurn w (X.two Y) w' (X.two Z) := by
  refine ⟨⟨X.only _ _ _ h.1 hT.only (fun k hk hy => h.2.2 k hk hy), hT.at', fun k hx hz => ?_⟩, hT.only.mono (fun k hk => .inr hk), fun k hk => ?_⟩
  · rcases hT.new k hz with h1 | h1
    · exact h.2.2 k hx h1
    · have := X.lt w h.1 k hx
      omega
  · rcases hk with h1 | h1
    · exact .inl (.inl h1)
    · exact (hT.new k h1).imp .inr id
/-- A second one is made. -/
theorem TTurn.add {X Z : Thg} (h : X.At w) (hT : TTurn w Thg.no w' Z) : TTurn w X w' (X.two Z) :=
  ⟨⟨X.later h hT.below_no, hT.at', fun k hx hz => by have := X.lt w h k hx; have := hT.new_no hz; omega⟩, Only.of_below hT.below_no, fun k hk => hk.imp id (fun h => hT.new_no h)⟩
/-- Only one of them goes on. -/
theorem KPT.of_two {I1 I2 : Thg → Prop} (h : KPT (fun Z => ∃ X Y, Z = X.two Y ∧ I1 X ∧ I2 Y) w0 P w) : KPT I1 w0 P w ∧ KPT I2 w0 P w := by
  obtain ⟨_, ⟨X, Y, rfl, i1, i2⟩, h2, h3, h4, h5⟩ := h
  exact ⟨⟨X, i1, h2.1, h3, fun k hk => h4 k (.inl hk), h5⟩, Y, i2, h2.2.1, h3, fun k hk => h4 k (.inr hk), h5⟩
theorem KPT.swap {I1 I2 : Thg → Prop} (h : KPT (fun Z => ∃ X Y, Z = X.two Y ∧ I1 X ∧ I2 Y) w0 P w) : KPT (fun Z => ∃ X Y, Z = X.two Y ∧ I2 X ∧ I1 Y) w0 P w := by
  obtain ⟨_, ⟨X, Y, rfl, i1, i2⟩, h2, h3, h4, h5⟩ := h
  exact ⟨Y.two X, ⟨Y, X, rfl, i2, i1⟩, ⟨h2.2.1, h2.1, fun k hy hx => h2.2.2 k hx hy⟩, h3, fun k hk => h4 k hk.symm, h5⟩
end
end Go.Proofs.Ytndddfkebbeemaa
