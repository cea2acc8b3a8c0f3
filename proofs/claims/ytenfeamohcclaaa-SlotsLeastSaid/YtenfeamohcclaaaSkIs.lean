/-
  slots: the landed slots are what the laws want; slots that are not there, and zero ones.
-/
import Derived.Test.YtenfeamohcclaaaSkNw
import Derived.Test.YtenfeamohcclaaaSkUs
namespace Go.Proofs.Ytenfeamohcclaaa
open Go.RowKit Go.Shelf Go
attribute [local go_sem] Oper.semAt_some

theorem used_gen {X : Thg} {w : World} {d : Option Nat} {m : Bool} {N : Nat} {f : Nat → Ownr} (I : SlI f N) (hlt : ∀ k, X.has k → k < w.heap.size)
    (hA : ∀ W, (∀ k, X.has k → W.heap[k]? = w.heap[k]?) → SkMay W d m N f) :
    Calls Try.prog 19 #[.pointer (d.map fun d => ⟨d, 0, none⟩)] w fun e w' => e = .returned (.int .i64 (cntB (ownB f) N)) ∧ Below w.heap.size w w' := callsIn_wide.1 (used_in 9 (Nat.le_refl _) I hlt hA)
theorem owns_block {w w' : World} {T : TypeId} {s n : Nat} {v : Value} {xs : List Value} (h : w.ownsRow 0 T s v n xs) (hw : ∀ k, v.ownBlock = some k → w'.heap[k]? = w.heap[k]?) : w'.ownsRow 0 T s v n xs := by
  obtain ⟨hl, ⟨rfl, h0⟩ | ⟨g, c, cur, rfl, hb, hh, h1, h2, h3, ht⟩⟩ := h
  · exact ⟨hl, .inl ⟨rfl, h0⟩⟩
  · exact ⟨hl, .inr ⟨g, c, cur, rfl, hb, (hw g rfl).trans hh, h1, h2, h3, ht⟩⟩
theorem SkAt.block {w w' : World} {p N : Nat} {m : Bool} {v : Value} {f : Nat → Ownr} (h : SkAt w p m v N f) (hw : ∀ k, SkAt.has p v k → w'.heap[k]? = w.heap[k]?) : SkAt w' p m v N f :=
  ⟨h.row.block (hw p (.inl rfl)), owns_block h.ow (fun k hk => hw k (.inr hk)), h.pv⟩
theorem sl_ok : SlOk IsSk where
  inv := fun h => h.2
  new := fun w n _ => (new_sk w n).mono (by
    rintro e w' ⟨d, v, rfl, h⟩
    exact ⟨d, _, rfl, ⟨⟨v, rfl⟩, SlI.new n⟩, h⟩)
  len := fun {X d N f w} h hA => by
    obtain ⟨⟨v, rfl⟩, I⟩ := h
    exact (len_sk (d := some d) ⟨v, hA⟩).mono (by rintro e w' ⟨rfl, rfl⟩; exact ⟨rfl, Below.refl _ _⟩)
  take := fun {X d N f w} p q _ _ h hA => by
    obtain ⟨⟨v, rfl⟩, I⟩ := h
    exact (take_sk hA I p q).mono (by rintro e w' ⟨rfl, h⟩; exact ⟨_, rfl, ⟨⟨v, rfl⟩, I.take p q⟩, h⟩)
  free := fun {X d N f w} x _ h hA => by
    obtain ⟨⟨v, rfl⟩, I⟩ := h
    exact (free_sk hA I x).mono (by rintro e w' ⟨rfl, h⟩; exact ⟨_, rfl, ⟨⟨v, rfl⟩, I.free x⟩, h⟩)
  owner := fun {X d N f w} x _ h hA => by
    obtain ⟨⟨v, rfl⟩, I⟩ := h
    exact owner_sk (d := some d) ⟨v, hA⟩ I x
  used := fun {X d N f w} h hA => by
    obtain ⟨⟨v, rfl⟩, I⟩ := h
    exact used_gen (d := some d) (m := true) I ((thS d true v N f).lt w hA) (fun W hW => ⟨v, SkAt.block hA hW⟩)
  copy := fun {X d N f w} h hA => by
    obtain ⟨⟨v, rfl⟩, I⟩ := h
    exact (copy_sk hA I.le).mono (by
      rintro e w' ⟨d2, v2, rfl, h⟩
      exact ⟨d2, _, rfl, ⟨⟨v2, rfl⟩, I⟩, h⟩)
  all := fun {X d N f w} h hA => by
    obtain ⟨⟨v, rfl⟩, I⟩ := h
    exact all_gen (d := some d) (m := true) rfl I ((thS d true v N f).lt w hA) (fun W hW => ⟨v, SkAt.block hA hW⟩)

/-- Slots that are not there, or zero ones. -/
def ZrAt (w : World) (d : Option Nat) : Prop := ∀ z, d = some z → RowAt w z 2 (skV false (.slice none 0 0))
def thZ (d : Option Nat) : Thg := ⟨fun w => ZrAt w d, fun k => d = some k, fun _ _ _ h ho hs z e => (h z e).only ho (hs z e), fun _ h k e => (h k e).lt⟩
def IsZr (X : Thg) (d : Option Nat) : Prop := X = thZ d
def zcS : Array Value := #[.bool false, .slice none 0 0]
def noF : Nat → Ownr := fun _ => (0, 0)
section
variable {w : World}
theorem ZrAt.may {d : Option Nat} (h : ZrAt w d) : SkMay w d false 0 noF := by
  cases d with
  | none => exact ⟨rfl, rfl⟩
  | some z => exact ⟨.slice none 0 0, h z rfl, World.ownsRow_nil _ _ _ _, by simp [Value.ownBlock]⟩
theorem ZrAt.mays {d : Option Nat} (h : ZrAt w d) (W : World) (hW : ∀ k, (thZ d).has k → W.heap[k]? = w.heap[k]?) : SkMay W d false 0 noF :=
  ZrAt.may fun z e => (h z e).block (hW z e)
theorem I0 : SlI noF 0 := ⟨by decide, fun _ _ _ => rfl, fun _ _ => ⟨by simp [noF], by simp [noF]⟩⟩
set_option maxRecDepth 100000 in
theorem take_z (d : Option Nat) (h : ZrAt w d) (p q : Int) : Calls Try.prog 12 #[.pointer (d.map fun d => ⟨d, 0, none⟩), .int .i64 p, .int .i64 q] w fun e w' => e = .returned (.tuple #[.int .i64 0, .int .i64 1]) ∧ Below w.heap.size w w' := by
  have HM := Lib.hid (missing_sk h.may)
  clear h
  generalize (Option.map (fun d => (⟨d, 0, none⟩ : Addr)) d) = D at *
  rw [show (!false) = true from rfl] at HM
  go_enter Try.func12, Try.ntmps12
  go_wp2_with (fail)
  refine HM.out.mono ?_
  rintro e w1 ⟨rfl, rfl⟩
  go_wp2_with (fail)
  go_ret2
  exact ⟨rfl, Below.refl _ _⟩
set_option maxRecDepth 100000 in
theorem free_z (d : Option Nat) (h : ZrAt w d) (x : Int) : Calls Try.prog 14 #[.pointer (d.map fun d => ⟨d, 0, none⟩), .int .i64 x] w fun e w' => e = .returned (.int .i64 1) ∧ Below w.heap.size w w' := by
  have HM := Lib.hid (missing_sk h.may)
  clear h
  generalize (Option.map (fun d => (⟨d, 0, none⟩ : Addr)) d) = D at *
  rw [show (!false) = true from rfl] at HM
  go_enter Try.func14, Try.ntmps14
  go_wp2_with (fail)
  refine HM.out.mono ?_
  rintro e w1 ⟨rfl, rfl⟩
  go_wp2_with (fail)
  go_ret
  exact ⟨rfl, Below.refl _ _⟩
set_option maxRecDepth 100000 in
theorem copy_z (d : Option Nat) (h : ZrAt w d) : Calls Try.prog 16 #[.pointer (d.map fun d => ⟨d, 0, none⟩)] w fun e w' => e = .returned (.pointer none) ∧ Below w.heap.size w w' := by
  have HM := Lib.hid (missing_sk h.may)
  clear h
  generalize (Option.map (fun d => (⟨d, 0, none⟩ : Addr)) d) = D at *
  rw [show (!false) = true from rfl] at HM
  go_enter Try.func16, Try.ntmps16
  go_wp2_with (fail)
  refine HM.out.mono ?_
  rintro e w1 ⟨rfl, rfl⟩
  go_wp2_with (fail)
  go_ret
  exact ⟨rfl, Below.refl _ _⟩
end
theorem sl_none : SlNone IsZr zcS where
  len := fun {X d w} h hA => by subst h; exact (len_sk (ZrAt.may hA)).mono (by rintro e w' ⟨rfl, rfl⟩; exact ⟨rfl, Below.refl _ _⟩)
  take := fun {X d w} p q _ _ h hA => by subst h; exact take_z d hA p q
  free := fun {X d w} x _ h hA => by subst h; exact free_z d hA x
  owner := fun {X d w} x _ h hA => by
    subst h
    have h2 := owner_sk (ZrAt.may hA) I0 x
    rw [show rgO noF 0 x = (0, 0) from by unfold rgO noF; split <;> rfl] at h2
    exact h2
  used := fun {X d w} h hA => by subst h; exact used_gen (X := thZ d) (m := false) (N := 0) (f := noF) I0 ((thZ d).lt w hA) (fun W hW => ZrAt.mays hA W hW)
  copy := fun {X d w} h hA => by subst h; exact copy_z d hA
  all := fun {X d w} h hA => by subst h; exact all_gen (X := thZ d) (m := false) (N := 0) (f := noF) rfl I0 ((thZ d).lt w hA) (fun W hW => ZrAt.mays hA W hW)
  nil := ⟨thZ none, rfl, fun _ _ e => by cases e⟩
  val := fun W => by kernel_rfl
  zero := fun w => ⟨thZ (some w.heap.size), rfl, fun z e => by
    cases e
    exact RowAt.new w zcS _ 2 _ (fun i hi => by
      rcases (show i = 0 ∨ i = 1 by omega) with rfl | rfl <;> rfl), fun k e => by cases e; rfl⟩
end Go.Proofs.Ytenfeamohcclaaa
