/-
  The set and the plain one side by side.
-/
import Derived.Test.YtkecmoljaopgbaaDoorSame
import Derived.Test.YtkecmoljaopgbaaDoorCopy
import Derived.Test.YtkecmoljaopgbaaDoorLeast
import Derived.Deep.DeepCutAuto
import Derived.Deep.CutBlock
namespace Go.Proofs.YtkecmoljaopgbaaDoor
open Go.RowKit Go Bm

/-- A script of calls that came in: three numbers each. -/
def OpRow (w : World) (a : Option Addr) (len : Nat) (ops : Nat → Int × Int × Int) : Prop :=
  ∀ i, i < len → ∃ b o, a = some ⟨b, o, none⟩ ∧ w.cell? ⟨b, o + i * 3, none⟩ = some (.int .i64 (ops i).1) ∧ w.cell? ⟨b, o + i * 3 + 1, none⟩ = some (.int .i64 (ops i).2.1) ∧ w.cell? ⟨b, o + i * 3 + 2, none⟩ = some (.int .i64 (ops i).2.2)

/-- The set and the plain one say the same. -/
structure Both (B : Nat) (w0 w : World) (p wb rb n : Nat) (f : Nat → Bool) : Prop where
  own : Own B w0 w p wb n f
  ref : RefAt w rb n f
  hr : B ≤ rb
  ne1 : 0 < n → rb ≠ p
  ne2 : 0 < n → rb ≠ wb

theorem Own.later {B : Nat} {w0 w w' : World} {p wb n : Nat} {f : Nat → Bool} (O : Own B w0 w p wb n f) (hb : Below w.heap.size w w') (hB : B ≤ w.heap.size) : Own B w0 w' p wb n f :=
  ⟨O.set.later hb, O.below.trans (hb.mono hB), O.hp, O.hw, O.tab, O.pos⟩
theorem Own.base {B : Nat} {w0 w : World} {p wb n : Nat} {f : Nat → Bool} (O : Own B w0 w p wb n f) : B ≤ w.heap.size := by
  have := World.block_lt_of_cell? _ _ O.set.size
  have := O.hp
  simp at *; omega
theorem both_new {w w1 w2 : World} {p wb N : Nat} (O : Own w.heap.size w w1 p wb N noneF) (R : RefAt w2 w1.heap.size N noneF) (hg : w1.grownBy w2 none) : Both w.heap.size w w2 p wb w1.heap.size N noneF := by
  have hp := World.block_lt_of_cell? _ _ O.set.size
  refine ⟨O.later (Below.of_grown hg) O.base, R, O.base, fun _ e => by simp at hp; omega, fun hN e => ?_⟩
  have := World.block_lt_of_cell? _ _ (O.set.word 0 (by omega))
  simp at this; omega

theorem Both.later {B : Nat} {w0 w w' : World} {p wb rb n : Nat} {f : Nat → Bool} (O : Both B w0 w p wb rb n f) (hb : Below w.heap.size w w') : Both B w0 w' p wb rb n f :=
  ⟨O.own.later hb O.own.base, O.ref.later hb, O.hr, O.ne1, O.ne2⟩
theorem Both.drewN {B : Nat} {w0 w : World} {p wb rb n : Nat} {f : Nat → Bool} (O : Both B w0 w p wb rb n f) (m : Nat) : Both B w0 (w.drewN m) p wb rb n f :=
  ⟨O.own.drewN m, O.ref.drewN m, O.hr, O.ne1, O.ne2⟩
/-- The set says f, the plain one g; x's place reads I. -/
structure Mid (B : Nat) (w0 w : World) (p wb rb n bx : Nat) (I : Int) (f g : Nat → Bool) : Prop where
  own : Own B w0 w p wb n f
  ref : RefAt w rb n g
  hr : B ≤ rb
  ne1 : 0 < n → rb ≠ p
  ne2 : 0 < n → rb ≠ wb
  cx : w.cell? ⟨bx, 1, none⟩ = some (.int .i64 I)
  bxw : 0 < n → bx ≠ wb
  bxr : 0 < n → bx ≠ rb
theorem Mid.drewN {B : Nat} {w0 w : World} {p wb rb n bx : Nat} {I : Int} {f g : Nat → Bool} (O : Mid B w0 w p wb rb n bx I f g) (m : Nat) : Mid B w0 (w.drewN m) p wb rb n bx I f g :=
  ⟨O.own.drewN m, O.ref.drewN m, O.hr, O.ne1, O.ne2, O.cx, O.bxw, O.bxr⟩
theorem Mid.both {B : Nat} {w0 w : World} {p wb rb n bx : Nat} {I : Int} {f : Nat → Bool} (O : Mid B w0 w p wb rb n bx I f f) : Both B w0 w p wb rb n f := ⟨O.own, O.ref, O.hr, O.ne1, O.ne2⟩

theorem kept_of_grown {w w' : World} {wb : Nat} (hg : w.grownBy w' (some wb)) {a : Addr} {v : Value} (h : w.cell? a = some v) (hne : a.block ≠ wb) : w'.cell? a = some v :=
  hg.cell h (fun e => hne (Option.some.inj e))
theorem RefAt.grown {w w' : World} {rb n wb : Nat} {f : Nat → Bool} (R : RefAt w rb n f) (hg : w.grownBy w' (some wb)) (hne : 0 < n → rb ≠ wb) : RefAt w' rb n f := by
  refine ⟨fun k hk => kept_of_grown hg (R.cell k hk) (hne (by omega)), fun k hk => ?_, R.max⟩
  have hlt := World.block_lt_of_cell? _ _ (R.cell k hk)
  rw [World.frozen?_of_block (hg.block rb hlt (fun e => hne (by omega) (Option.some.inj e)))]
  exact R.free k hk

/-- The first call of the two: the set's. -/
theorem mid_put (B : Nat) (w0 w : World) (p wb rb n bx : Nat) (I : Int) (f g : Nat → Bool) (M : Mid B w0 w p wb rb n bx I f g) (h0 : 0 ≤ I) (hi : I < n) (hf : f I.toNat = false) :
    Calls Tryd.prog 10 #[.pointer (some ⟨p, 0, none⟩), .int .i64 I] w fun e w' => e = .returned (.int .i64 0) ∧ Mid B w0 w' p wb rb n bx I (upd f I.toNat true) g := by
  refine (put_own B w0 w p wb n f I M.own h0 hi hf).mono ?_
  rintro e w' ⟨rfl, O, hg⟩
  exact ⟨rfl, O, M.ref.grown hg M.ne2, M.hr, M.ne1, M.ne2, kept_of_grown hg M.cx (M.bxw (by omega)), M.bxw, M.bxr⟩
theorem mid_take (B : Nat) (w0 w : World) (p wb rb n bx : Nat) (I : Int) (f g : Nat → Bool) (M : Mid B w0 w p wb rb n bx I f g) (h0 : 0 ≤ I) (hi : I < n) (hf : f I.toNat = true) :
    Calls Tryd.prog 12 #[.pointer (some ⟨p, 0, none⟩), .int .i64 I] w fun e w' => e = .returned (.int .i64 0) ∧ Mid B w0 w' p wb rb n bx I (upd f I.toNat false) g := by
  refine (take_own B w0 w p wb n f I M.own h0 hi hf).mono ?_
  rintro e w' ⟨rfl, O, hg⟩
  exact ⟨rfl, O, M.ref.grown hg M.ne2, M.hr, M.ne1, M.ne2, kept_of_grown hg M.cx (M.bxw (by omega)), M.bxw, M.bxr⟩
theorem Mid.refstore {B : Nat} {w0 w : World} {p wb rb n bx : Nat} {I : Int} {f g : Nat → Bool} (M : Mid B w0 w p wb rb n bx I f g) (i : Nat) (hi : i < n) (b : Bool) :
    Mid B w0 (w.setCell ⟨rb, i, none⟩ (.bool b)) p wb rb n bx I f (upd g i b) := by
  have hne : ∀ (q o : Nat), q ≠ rb → (w.setCell ⟨rb, i, none⟩ (.bool b)).cell? ⟨q, o, none⟩ = w.cell? ⟨q, o, none⟩ := fun q o h => World.cell?_setCell_other _ _ _ _ (fun e => h (congrArg Addr.block e).symm)
  have hn : 0 < n := by omega
  refine ⟨⟨⟨?_, ?_, fun k hk => ?_, fun k hk => ?_, M.own.set.out, M.own.set.ne, M.own.set.max⟩, M.own.below.setCell (p := ⟨rb, i, none⟩) M.hr _, M.own.hp, M.own.hw, M.own.tab, M.own.pos⟩, M.ref.store i b, M.hr, M.ne1, M.ne2, ?_, M.bxw, M.bxr⟩
  · rw [hne p 0 (M.ne1 hn).symm]; exact M.own.set.size
  · rw [hne p 1 (M.ne1 hn).symm]; exact M.own.set.words
  · rw [hne wb k (M.ne2 hn).symm]; exact M.own.set.word k hk
  · rw [World.frozen?_setCell]; exact M.own.set.free k hk
  · rw [hne bx 1 (M.bxr hn)]; exact M.cx
theorem mid_refput (B : Nat) (w0 w : World) (p wb rb n bx : Nat) (I : Int) (f g : Nat → Bool) (M : Mid B w0 w p wb rb n bx I f g) (h0 : 0 ≤ I) (hi : I < n) (hf : g I.toNat = false) :
    Calls Tryd.prog 11 #[.slice (some ⟨rb, 0, none⟩) n n, .int .i64 I] w fun e w' => e = .returned (.int .i64 0) ∧ Mid B w0 w' p wb rb n bx I f (upd g I.toNat true) := by
  obtain ⟨i, rfl⟩ := Int.eq_ofNat_of_zero_le h0
  refine (refput_yes rb n g i w M.ref (by omega) hf).mono ?_
  rintro e w' ⟨rfl, rfl⟩
  exact ⟨rfl, M.refstore i (by omega) true⟩
theorem mid_reftake (B : Nat) (w0 w : World) (p wb rb n bx : Nat) (I : Int) (f g : Nat → Bool) (M : Mid B w0 w p wb rb n bx I f g) (h0 : 0 ≤ I) (hi : I < n) (hf : g I.toNat = true) :
    Calls Tryd.prog 13 #[.slice (some ⟨rb, 0, none⟩) n n, .int .i64 I] w fun e w' => e = .returned (.int .i64 0) ∧ Mid B w0 w' p wb rb n bx I f (upd g I.toNat false) := by
  obtain ⟨i, rfl⟩ := Int.eq_ofNat_of_zero_le h0
  refine (reftake_yes rb n g i w M.ref (by omega) hf).mono ?_
  rintro e w' ⟨rfl, rfl⟩
  exact ⟨rfl, M.refstore i (by omega) false⟩

theorem Both.rb_ne {B : Nat} {w0 w : World} {p wb rb n : Nat} {f : Nat → Bool} (O : Both B w0 w p wb rb n f) (h : 0 < n) : w.heap.size ≠ rb := by
  have := World.block_lt_of_cell? _ _ (O.ref.cell 0 h)
  simp at this; omega
/-- A contract that draws, met in the middle of a quiet region. -/
theorem quiet_draw {P : Program} {f : FuncId} {args : Array Value} {w : World} {n : Nat} {v : Value}
    (h : Calls P f args (w.drewN n) fun e w' => e = .returned v ∧ ∃ m, w' = (w.drewN n).drewN m) : Calls P f args (w.drewN n) fun e w'' => e = .returned v ∧ ∃ m, w'' = w.drewN m :=
  h.mono fun _ _ ⟨he, m, hm⟩ => ⟨he, n + m, by rw [hm, World.drewN_drewN]⟩
theorem refO_run (f : Nat → Bool) (n : Nat) (m i : Int) : refO f n m i false = runO f n m i := by
  unfold refO runO
  rw [runG_false]

/-- Put and Take, whatever i is: what else lies there stays. -/
def Stays (B : Nat) (w0 w : World) (p wb n : Nat) (e : Ending) (w' : World) : Prop :=
  ∃ z f', e = .returned (.int .i64 z) ∧ Own B w0 w' p wb n f' ∧ ((∃ m, w' = w.drewN m) ∨ (0 < n ∧ w.grownBy w' (some wb)))
theorem put_frame (B : Nat) (w0 w : World) (p wb n : Nat) (f : Nat → Bool) (i : Int) (O : Own B w0 w p wb n f) :
    Calls Tryd.prog 10 #[.pointer (some ⟨p, 0, none⟩), .int .i64 i] w (Stays B w0 w p wb n) := by
  by_cases h : i < 0 ∨ (n : Int) ≤ i
  · refine (put_no p n i w O.set.size h).mono ?_
    rintro e w' ⟨rfl, rfl⟩
    exact ⟨2, f, rfl, O, .inl ⟨0, rfl⟩⟩
  · by_cases hf : f i.toNat = true
    · refine (put_own_twice B w0 w p wb n f i O (by omega) (by omega) hf).mono ?_
      rintro e w' ⟨rfl, h1, h2⟩
      exact ⟨8, f, rfl, h1, .inl h2⟩
    · refine (put_own B w0 w p wb n f i O (by omega) (by omega) (by simpa using hf)).mono ?_
      rintro e w' ⟨rfl, h1, hg⟩
      exact ⟨0, _, rfl, h1, .inr ⟨by omega, hg⟩⟩
theorem take_frame (B : Nat) (w0 w : World) (p wb n : Nat) (f : Nat → Bool) (i : Int) (O : Own B w0 w p wb n f) :
    Calls Tryd.prog 12 #[.pointer (some ⟨p, 0, none⟩), .int .i64 i] w (Stays B w0 w p wb n) := by
  by_cases h : i < 0 ∨ (n : Int) ≤ i
  · refine (take_no p n i w O.set.size h).mono ?_
    rintro e w' ⟨rfl, rfl⟩
    exact ⟨2, f, rfl, O, .inl ⟨0, rfl⟩⟩
  · by_cases hf : f i.toNat = true
    · refine (take_own B w0 w p wb n f i O (by omega) (by omega) hf).mono ?_
      rintro e w' ⟨rfl, h1, hg⟩
      exact ⟨0, _, rfl, h1, .inr ⟨by omega, hg⟩⟩
    · obtain ⟨i, rfl⟩ := Int.eq_ofNat_of_zero_le (show 0 ≤ i by omega)
      refine (take_none p wb n f i w O.set (by omega) (by simpa using hf)).mono ?_
      rintro e w' ⟨rfl, m, rfl⟩
      exact ⟨7, f, rfl, O.drewN m, .inl ⟨m, rfl⟩⟩

theorem SetAt.grown {w w' : World} {p2 wb2 wb n : Nat} {f : Nat → Bool} (S : SetAt w p2 wb2 n f) (hg : w.grownBy w' (some wb)) (h1 : p2 ≠ wb) (h2 : 0 < n → wb2 ≠ wb) : SetAt w' p2 wb2 n f := by
  refine ⟨kept_of_grown hg S.size h1, kept_of_grown hg S.words h1, fun k hk => kept_of_grown hg (S.word k hk) (h2 (by omega)), fun k hk => ?_, S.out, S.ne, S.max⟩
  have hlt := World.block_lt_of_cell? _ _ (S.word k hk)
  rw [World.frozen?_of_block (hg.block wb2 hlt (fun e => h2 (by omega) (Option.some.inj e)))]
  exact S.free k hk

/-- The old set and its copy, beside the plain one and x's places. -/
structure Trio (B : Nat) (w0 w : World) (p wb p2 wb2 rb n bx : Nat) (I N2 : Int) (f : Nat → Bool) : Prop where
  old : ∃ f', Own B w0 w p wb n f'
  new : SetAt w p2 wb2 n f
  ref : RefAt w rb n f
  cx : w.cell? ⟨bx, 1, none⟩ = some (.int .i64 I)
  cy : w.cell? ⟨bx, 2, none⟩ = some (.int .i64 N2)
theorem Trio.stays {B : Nat} {w0 w w' : World} {p wb p2 wb2 rb n bx : Nat} {I N2 : Int} {f : Nat → Bool} {e : Ending} (T : Trio B w0 w p wb p2 wb2 rb n bx I N2 f) (h1 : 0 < n → p2 ≠ wb) (h2 : 0 < n → wb2 ≠ wb) (h3 : 0 < n → rb ≠ wb) (h4 : 0 < n → bx ≠ wb)
    (h : Stays B w0 w p wb n e w') : (∃ z, e = .returned (.int .i64 z)) ∧ Trio B w0 w' p wb p2 wb2 rb n bx I N2 f := by
  obtain ⟨z, f', rfl, O, ⟨m, rfl⟩ | ⟨hn, hg⟩⟩ := h
  · exact ⟨⟨z, rfl⟩, ⟨⟨f', O⟩, T.new.drewN m, T.ref.drewN m, T.cx, T.cy⟩⟩
  · exact ⟨⟨z, rfl⟩, ⟨⟨f', O⟩, T.new.grown hg (h1 hn) h2, T.ref.grown hg h3, kept_of_grown hg T.cx (h4 hn), kept_of_grown hg T.cy (h4 hn)⟩⟩
theorem trio_put (B : Nat) (w0 w : World) (p wb p2 wb2 rb n bx : Nat) (I N2 : Int) (f : Nat → Bool) (i : Int) (T : Trio B w0 w p wb p2 wb2 rb n bx I N2 f) (h1 : 0 < n → p2 ≠ wb) (h2 : 0 < n → wb2 ≠ wb) (h3 : 0 < n → rb ≠ wb) (h4 : 0 < n → bx ≠ wb) :
    Calls Tryd.prog 10 #[.pointer (some ⟨p, 0, none⟩), .int .i64 i] w fun e w' => (∃ z, e = .returned (.int .i64 z)) ∧ Trio B w0 w' p wb p2 wb2 rb n bx I N2 f := by
  obtain ⟨f', O⟩ := T.old
  exact (put_frame B w0 w p wb n f' i O).mono fun e w' h => T.stays h1 h2 h3 h4 h
theorem trio_take (B : Nat) (w0 w : World) (p wb p2 wb2 rb n bx : Nat) (I N2 : Int) (f : Nat → Bool) (i : Int) (T : Trio B w0 w p wb p2 wb2 rb n bx I N2 f) (h1 : 0 < n → p2 ≠ wb) (h2 : 0 < n → wb2 ≠ wb) (h3 : 0 < n → rb ≠ wb) (h4 : 0 < n → bx ≠ wb) :
    Calls Tryd.prog 12 #[.pointer (some ⟨p, 0, none⟩), .int .i64 i] w fun e w' => (∃ z, e = .returned (.int .i64 z)) ∧ Trio B w0 w' p wb p2 wb2 rb n bx I N2 f := by
  obtain ⟨f', O⟩ := T.old
  exact (take_frame B w0 w p wb n f' i O).mono fun e w' h => T.stays h1 h2 h3 h4 h
/-- What Copy leaves beside all else. -/
structure Apart3 (B p2 wb2 wb rb n : Nat) : Prop where
  hp : B ≤ p2
  hw : B ≤ wb2
  pw : 0 < n → p2 ≠ wb
  ww : 0 < n → wb2 ≠ wb
  rp : 0 < n → rb ≠ p2
  rw' : 0 < n → rb ≠ wb2
theorem trio_copy {B : Nat} {w0 w : World} {p wb rb n bx : Nat} {I N2 : Int} {f : Nat → Bool} (M : Mid B w0 w p wb rb n bx I f f) (cy : w.cell? ⟨bx, 2, none⟩ = some (.int .i64 N2)) :
    Calls Tryd.prog 18 #[.pointer (some ⟨p, 0, none⟩)] w fun e w' => ∃ p2 wb2, e = .returned (.pointer (some ⟨p2, 0, none⟩)) ∧ Trio B w0 w' p wb p2 wb2 rb n bx I N2 f ∧ Apart3 B p2 wb2 wb rb n := by
  refine (copy_any p wb n f w M.own.set).mono ?_
  rintro e w' ⟨p2, wb2, rfl, h1, h2, S, hb⟩
  have hB := M.own.base
  have hrb : 0 < n → rb < w.heap.size := fun h => World.block_lt_of_cell? _ _ (M.ref.cell 0 h)
  have hwb : 0 < n → wb < w.heap.size := fun h => World.block_lt_of_cell? _ _ (M.own.set.word 0 (by omega))
  refine ⟨p2, wb2, rfl, ⟨⟨f, M.own.later hb hB⟩, S, M.ref.later hb, ?_, ?_⟩, ⟨by omega, by omega, fun h => by have := hwb h; omega, fun h => by have := hwb h; omega, fun h => by have := hrb h; omega, fun h => by have := hrb h; omega⟩⟩
  · rw [hb.cell (World.block_lt_of_cell? _ _ M.cx)]; exact M.cx
  · rw [hb.cell (World.block_lt_of_cell? _ _ cy)]; exact cy
theorem Trio.both {B : Nat} {w0 w : World} {p wb p2 wb2 rb n bx : Nat} {I N2 : Int} {f : Nat → Bool} (T : Trio B w0 w p wb p2 wb2 rb n bx I N2 f) (A : Apart3 B p2 wb2 wb rb n) (hr : B ≤ rb) : Both B w0 w p2 wb2 rb n f := by
  obtain ⟨f', O⟩ := T.old
  exact ⟨⟨T.new, O.below, A.hp, A.hw, O.tab, O.pos⟩, T.ref, hr, A.rp, A.rw'⟩

theorem Both.wb_lt {B : Nat} {w0 w : World} {p wb rb n : Nat} {f : Nat → Bool} (O : Both B w0 w p wb rb n f) : wb < w.heap.size ∨ n = 0 := by
  by_cases h : n = 0
  · exact .inr h
  · have := World.block_lt_of_cell? _ _ (O.own.set.word 0 (by omega))
    exact .inl this

end Go.Proofs.YtkecmoljaopgbaaDoor
