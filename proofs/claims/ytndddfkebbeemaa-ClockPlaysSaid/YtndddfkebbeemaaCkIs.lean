/-
  clock: the landed clock is what the laws want; a clock that is not there, and a zero one.
-/
import Derived.Test.YtndddfkebbeemaaCkNy
import Derived.Test.YtndddfkebbeemaaCkAc
namespace Go.Proofs.Ytndddfkebbeemaa
open Go.RowKit Go.Shelf Go
attribute [local go_sem] Oper.semAt_some

theorem ck_ok : ClOk IsCk where
  inv := fun h => h.2
  new := fun w => (new_ck w).mono (by
    rintro e w' ⟨d, v, mb, rfl, h⟩
    exact ⟨d, _, rfl, ⟨⟨v, mb, rfl⟩, ClI.nil⟩, h⟩)
  add := fun {X d L w} x hx hl h hA => by
    obtain ⟨⟨v, mb, rfl⟩, I⟩ := h
    exact (add_ck hA hl hx).mono (by rintro e w' ⟨rfl, v', h⟩; exact ⟨_, rfl, ⟨⟨v', mb, rfl⟩, I.add hx.2 hl⟩, h⟩)
  remove := fun {X d L w} x hx h hA => by
    obtain ⟨⟨v, mb, rfl⟩, I⟩ := h
    exact (rem_ck hA I hx).mono (by rintro e w' ⟨rfl, v', h⟩; exact ⟨_, rfl, ⟨⟨v', mb, rfl⟩, I.rem x⟩, h⟩)
  touch := fun {X d L w} x hx h hA => by
    obtain ⟨⟨v, mb, rfl⟩, I⟩ := h
    exact (touch_ck hA I hx).mono (by rintro e w' ⟨rfl, v', h⟩; exact ⟨_, rfl, ⟨⟨v', mb, rfl⟩, I.tou x⟩, h⟩)
  next := fun {X d L w} h hA => by
    obtain ⟨⟨v, mb, rfl⟩, I⟩ := h
    by_cases hL : 0 < L.length
    · exact (next_ck hA I hL).mono (by rintro e w' ⟨rfl, v', h⟩; exact ⟨_, rfl, ⟨⟨v', mb, rfl⟩, I.next⟩, h⟩)
    · obtain rfl : L = [] := List.length_eq_zero_iff.1 (by omega)
      exact (next_none (X := thC d v (some mb) []) (d := some d) (m := true) ((thC d v (some mb) []).lt w hA) (fun W hW => ⟨v, some mb, CkAt.block hA hW, rfl⟩)).mono (by
        rintro e w' ⟨rfl, hb⟩
        exact ⟨_, rfl, ⟨⟨v, mb, rfl⟩, I⟩, thC_same hA hb⟩)
  len := fun {X d L w} h hA => by
    obtain ⟨⟨v, mb, rfl⟩, I⟩ := h
    exact (len_ck (d := some d) (m := true) ⟨v, some mb, hA, rfl⟩).mono (by rintro e w' ⟨rfl, rfl⟩; exact ⟨rfl, Below.refl _ _⟩)
  active := fun {X d L w} h hA => by
    obtain ⟨⟨v, mb, rfl⟩, I⟩ := h
    exact active_gen (X := thC d v (some mb) L) (d := some d) (m := true) I ((thC d v (some mb) L).lt w hA) (fun W hW => ⟨v, some mb, CkAt.block hA hW, rfl⟩)
  has := fun {X d L w} x hx h hA => by
    obtain ⟨⟨v, mb, rfl⟩, I⟩ := h
    exact has_ck (d := some d) (m := true) ⟨v, some mb, hA, rfl⟩ hx
  copy := fun {X d L w} h hA => by
    obtain ⟨⟨v, mb, rfl⟩, I⟩ := h
    exact (copy_ck hA I.len).mono (by
      rintro e w' ⟨d2, v2, mb2, rfl, h⟩
      exact ⟨d2, _, rfl, ⟨⟨v2, mb2, rfl⟩, I⟩, h⟩)
  all := fun {X d L w} h hA => by
    obtain ⟨⟨v, mb, rfl⟩, I⟩ := h
    exact all_gen (d := some d) (m := true) I ((thC d v (some mb) L).lt w hA) (fun W hW => ⟨v, some mb, CkAt.block hA hW, rfl⟩)

/-- A clock that is not there, or a zero one. -/
def CkZr (w : World) (d : Option Nat) : Prop := ∀ z, d = some z → RowAt w z 2 (ckV (.slice none 0 0) none)
def thCZ (d : Option Nat) : Thg := ⟨fun w => CkZr w d, fun k => d = some k, fun _ _ _ h ho hs z e => (h z e).only ho (hs z e), fun _ h k e => (h k e).lt⟩
def IsCkZ (X : Thg) (d : Option Nat) : Prop := X = thCZ d
def zcC : Array Value := #[.slice none 0 0, .map none]
section
variable {w : World}
theorem CkZr.may {d : Option Nat} (h : CkZr w d) : CkMay w d false [] := by
  cases d with
  | none => exact ⟨rfl, rfl⟩
  | some z => exact ⟨.slice none 0 0, none, ⟨h z rfl, WinAt.nil w, fun mb e => (by cases e), fun _ => rfl, by simp [Value.ownBlock], fun e => (by cases e), fun mb e => (by cases e)⟩, rfl⟩
theorem CkZr.mays {d : Option Nat} (h : CkZr w d) (W : World) (hW : ∀ k, (thCZ d).has k → W.heap[k]? = w.heap[k]?) : CkMay W d false [] :=
  CkZr.may fun z e => (h z e).block (hW z e)
set_option maxRecDepth 100000 in
theorem add_z (d : Option Nat) (h : CkZr w d) (x : Int) : Calls Try.prog 11 #[.pointer (d.map fun d => ⟨d, 0, none⟩), .int .i64 x] w fun e w' => e = .returned (.int .i64 1) ∧ Below w.heap.size w w' := by
  have HM := Lib.hid (missing_ck h.may)
  clear h
  generalize (Option.map (fun d => (⟨d, 0, none⟩ : Addr)) d) = D at *
  rw [show (!false) = true from rfl] at HM
  go_enter Try.func11, Try.ntmps11
  go_wp2_with (fail)
  refine HM.out.mono ?_
  rintro e w1 ⟨rfl, rfl⟩
  go_wp2_with (fail)
  go_ret
  exact ⟨rfl, Below.refl _ _⟩
set_option maxRecDepth 100000 in
theorem rem_z (d : Option Nat) (h : CkZr w d) (x : Int) : Calls Try.prog 13 #[.pointer (d.map fun d => ⟨d, 0, none⟩), .int .i64 x] w fun e w' => e = .returned (.int .i64 1) ∧ Below w.heap.size w w' := by
  have HM := Lib.hid (missing_ck h.may)
  clear h
  generalize (Option.map (fun d => (⟨d, 0, none⟩ : Addr)) d) = D at *
  rw [show (!false) = true from rfl] at HM
  go_enter Try.func13, Try.ntmps13
  go_wp2_with (fail)
  refine HM.out.mono ?_
  rintro e w1 ⟨rfl, rfl⟩
  go_wp2_with (fail)
  go_ret
  exact ⟨rfl, Below.refl _ _⟩
set_option maxRecDepth 100000 in
theorem touch_z (d : Option Nat) (h : CkZr w d) (x : Int) : Calls Try.prog 15 #[.pointer (d.map fun d => ⟨d, 0, none⟩), .int .i64 x] w fun e w' => e = .returned (.int .i64 1) ∧ Below w.heap.size w w' := by
  have HM := Lib.hid (missing_ck h.may)
  clear h
  generalize (Option.map (fun d => (⟨d, 0, none⟩ : Addr)) d) = D at *
  rw [show (!false) = true from rfl] at HM
  go_enter Try.func15, Try.ntmps15
  go_wp2_with (fail)
  refine HM.out.mono ?_
  rintro e w1 ⟨rfl, rfl⟩
  go_wp2_with (fail)
  go_ret
  exact ⟨rfl, Below.refl _ _⟩
set_option maxRecDepth 100000 in
theorem copy_z (d : Option Nat) (h : CkZr w d) : Calls Try.prog 19 #[.pointer (d.map fun d => ⟨d, 0, none⟩)] w fun e w' => e = .returned (.pointer none) ∧ Below w.heap.size w w' := by
  have HM := Lib.hid (missing_ck h.may)
  clear h
  generalize (Option.map (fun d => (⟨d, 0, none⟩ : Addr)) d) = D at *
  rw [show (!false) = true from rfl] at HM
  go_enter Try.func19, Try.ntmps19
  go_wp2_with (fail)
  refine HM.out.mono ?_
  rintro e w1 ⟨rfl, rfl⟩
  go_wp2_with (fail)
  go_ret
  exact ⟨rfl, Below.refl _ _⟩
end
theorem ck_none : ClNone IsCkZ zcC where
  add := fun {X d w} x _ h hA => by subst h; exact add_z d hA x
  remove := fun {X d w} x _ h hA => by subst h; exact rem_z d hA x
  touch := fun {X d w} x _ h hA => by subst h; exact touch_z d hA x
  next := fun {X d w} h hA => by subst h; exact next_none (X := thCZ d) (m := false) ((thCZ d).lt w hA) (fun W hW => CkZr.mays hA W hW)
  len := fun {X d w} h hA => by subst h; exact (len_ck (CkZr.may hA)).mono (by rintro e w' ⟨rfl, rfl⟩; exact ⟨rfl, Below.refl _ _⟩)
  active := fun {X d w} h hA => by subst h; exact active_gen (X := thCZ d) (m := false) (L := []) ClI.nil ((thCZ d).lt w hA) (fun W hW => CkZr.mays hA W hW)
  has := fun {X d w} x hx h hA => by
    subst h
    have h2 := has_ck (CkZr.may hA) hx
    rw [show hasL [] x = false by simp [hasL, namesL]] at h2
    exact h2
  copy := fun {X d w} h hA => by subst h; exact copy_z d hA
  all := fun {X d w} h hA => by subst h; exact all_gen (X := thCZ d) (m := false) (L := []) ClI.nil ((thCZ d).lt w hA) (fun W hW => CkZr.mays hA W hW)
  nil := ⟨thCZ none, rfl, fun _ _ e => by cases e⟩
  val := fun W => by kernel_rfl
  zero := fun w => ⟨thCZ (some w.heap.size), rfl, fun z e => by
    cases e
    exact RowAt.new w zcC _ 2 _ (fun i hi => by
      rcases (show i = 0 ∨ i = 1 by omega) with rfl | rfl <;> rfl), fun k e => by cases e; rfl⟩
end Go.Proofs.Ytndddfkebbeemaa
