/-
  rmap: the landed map is what the laws want; maps that are not there, and zero ones.
-/
import Derived.Test.YtjjcbbnnilafdaaRmMc
import Derived.Test.YtjjcbbnnilafdaaRmMn
import Derived.Test.YtjjcbbnnilafdaaRmMo
namespace Go.Proofs.Ytjjcbbnnilafdaa
open Go.RowKit Go.Shelf Go Go.Maps
attribute [local go_sem] Oper.semAt_some

theorem OwAt.asks {w : World} {d mb N : Nat} {v : Value} {f : Nat → Ownr} (h : OwAt w d v mb N f) {p : Int} (hp : InI p) {F : Nat → Option Nat} (hF : ∀ i : Nat, (F i).map (fun (k : Nat) => (k : Int)) = fmO f N (p, (i : Int))) :
    ∀ W, (∀ k, OwAt.has d v mb k → W.heap[k]? = w.heap[k]?) → Asks W d (some mb) p F := fun W hW => by
  refine ⟨(World.cell?_of_block (a := ⟨d, 1, none⟩) (hW d (.inl rfl))).trans h.c1, fun i hi => ?_⟩
  have hm : LMap Try.prog TOw KO EI W mb (fmO f N) := h.mp.block (hW mb (.inr (.inr rfl)))
  have hl := hm.look (t := 51) (x := (p, (i : Int))) Try.underlying51 0 (int_wf (by decide)) (zeroI _) ⟨int_wf hp, int_wf (by omega)⟩
  rw [← hF i] at hl
  cases hFi : F i with
  | none => rw [hFi] at hl; exact hl
  | some x => rw [hFi] at hl; exact hl
/-- Each page's frame. -/
def frF (f : Nat → Ownr) (N : Nat) (p : Int) (i : Nat) : Option Nat := if 1 ≤ p then findF f (p.toNat, i) N else none
theorem frF_map (f : Nat → Ownr) (N : Nat) (p : Int) (i : Nat) : (frF f N p i).map (fun (k : Nat) => (k : Int)) = fmO f N (p, (i : Int)) := by
  unfold frF fmO
  dsimp only
  by_cases h : 1 ≤ p
  · rw [if_pos h, if_pos ⟨h, by omega⟩, Int.toNat_natCast]
  · rw [if_neg h, if_neg (fun q => h q.1)]
    rfl
theorem rm_ok : RmOk IsMp where
  inv := fun h => h.2
  new := fun w n _ => (new_mp w n).mono (by
    rintro e w' ⟨d, v, mb, rfl, h⟩
    exact ⟨d, _, rfl, ⟨⟨v, mb, rfl⟩, RmI.new n⟩, h⟩)
  frames := fun {X d N f w} h hA => by
    obtain ⟨⟨v, mb, rfl⟩, I⟩ := h
    exact (frames_mp hA).mono (by rintro e w' ⟨rfl, rfl⟩; exact ⟨rfl, Below.refl _ _⟩)
  set := fun {X d N f w} x p q _ hp hq h hA => by
    obtain ⟨⟨v, mb, rfl⟩, I⟩ := h
    exact (set_mp hA I x p q hp hq).mono (by rintro e w' ⟨rfl, h⟩; exact ⟨_, rfl, ⟨⟨v, mb, rfl⟩, I.set x p q⟩, h⟩)
  clear := fun {X d N f w} x _ h hA => by
    obtain ⟨⟨v, mb, rfl⟩, I⟩ := h
    exact (clear_mp hA I x).mono (by rintro e w' ⟨rfl, h⟩; exact ⟨_, rfl, ⟨⟨v, mb, rfl⟩, I.clear x⟩, h⟩)
  get := fun {X d N f w} x _ h hA => by
    obtain ⟨⟨v, mb, rfl⟩, I⟩ := h
    exact get_mp hA I x
  copy := fun {X d N f w} h hA => by
    obtain ⟨⟨v, mb, rfl⟩, I⟩ := h
    exact (copy_mp hA I.le).mono (by
      rintro e w' ⟨d2, v2, mb2, rfl, h⟩
      exact ⟨d2, _, rfl, ⟨⟨v2, mb2, rfl⟩, I⟩, h⟩)
  of := fun {X d N f w} p hp h hA => by
    obtain ⟨⟨v, mb, rfl⟩, I⟩ := h
    exact of_gen (askL_of f N p (frF f N p) (frF_map f N p) 1024) ((thO d v mb N f).lt w hA) (hA.asks hp (frF_map f N p))

/-- A map that is not there, or a zero one. -/
def ZrAt (w : World) (d : Option Nat) : Prop := ∀ z, d = some z → RowAt w z 2 (fun i => if i = 0 then .slice none 0 0 else .map none)
def thZ (d : Option Nat) : Thg := ⟨fun w => ZrAt w d, fun k => d = some k, fun _ _ _ h ho hs z e => (h z e).only ho (hs z e), fun _ h k e => (h k e).lt⟩
def IsZr (X : Thg) (d : Option Nat) : Prop := X = thZ d
def zcM : Array Value := #[.slice none 0 0, .map none]
section
variable {w : World} {z : Nat}
theorem ZrAt.c (h : ZrAt w (some z)) : w.cell? ⟨z, 0, none⟩ = some (.slice none 0 0) ∧ w.cell? ⟨z, 1, none⟩ = some (.map none) := ⟨(h z rfl).cell 0 (by decide), (h z rfl).cell 1 (by decide)⟩
set_option maxRecDepth 100000 in
theorem missing_z (d : Option Nat) (h : ZrAt w d) : Calls Try.prog 20 #[.pointer (d.map fun d => ⟨d, 0, none⟩)] w fun e w' => e = .returned (.bool true) ∧ w = w' := by
  cases d with
  | none =>
    go_enter Try.func20, Try.ntmps20
    go_wp2_with (fail)
    go_ret
    exact ⟨rfl, rfl⟩
  | some z =>
    obtain ⟨c0, c1⟩ := h.c
    have hm := map_nil
    clear h
    go_enter Try.func20, Try.ntmps20
    go_wp2_with (fail)
    go_ret
    exact ⟨rfl, rfl⟩
set_option maxRecDepth 100000 in
theorem has_z (d : Option Nat) (h : ZrAt w d) (x : Int) : Calls Try.prog 21 #[.pointer (d.map fun d => ⟨d, 0, none⟩), .int .i64 x] w fun e w' => e = .returned (.bool false) ∧ w = w' := by
  cases d with
  | none =>
    go_enter Try.func21, Try.ntmps21
    go_wp2_with (fail)
    go_ret
    exact ⟨rfl, rfl⟩
  | some z =>
    obtain ⟨c0, c1⟩ := h.c
    clear h
    by_cases h0 : 0 ≤ x
    · have h1 : ¬ x < 0 := by omega
      go_enter Try.func21, Try.ntmps21
      go_wp2_with (fail)
      go_ret
      exact ⟨rfl, rfl⟩
    · go_enter Try.func21, Try.ntmps21
      go_wp2_with (fail)
      go_ret
      exact ⟨rfl, rfl⟩
set_option maxRecDepth 100000 in
theorem frames_z (d : Option Nat) (h : ZrAt w d) : Calls Try.prog 11 #[.pointer (d.map fun d => ⟨d, 0, none⟩)] w fun e w' => e = .returned (.int .i64 0) ∧ Below w.heap.size w w' := by
  cases d with
  | none =>
    go_enter Try.func11, Try.ntmps11
    go_wp2_with (fail)
    go_ret
    exact ⟨rfl, Below.refl _ _⟩
  | some z =>
    obtain ⟨c0, c1⟩ := h.c
    clear h
    go_enter Try.func11, Try.ntmps11
    go_wp2_with (fail)
    go_ret
    exact ⟨rfl, Below.refl _ _⟩
set_option maxRecDepth 100000 in
theorem set_z (d : Option Nat) (h : ZrAt w d) (x p q : Int) : Calls Try.prog 12 #[.pointer (d.map fun d => ⟨d, 0, none⟩), .int .i64 x, .int .i64 p, .int .i64 q] w fun e w' => e = .returned (.int .i64 1) ∧ Below w.heap.size w w' := by
  have HM := Lib.hid (missing_z d h)
  clear h
  generalize (Option.map (fun d => (⟨d, 0, none⟩ : Addr)) d) = D at *
  go_enter Try.func12, Try.ntmps12
  go_wp2_with (fail)
  refine HM.out.mono ?_
  rintro e w1 ⟨rfl, rfl⟩
  go_wp2_with (fail)
  go_ret
  exact ⟨rfl, Below.refl _ _⟩
set_option maxRecDepth 100000 in
theorem clear_z (d : Option Nat) (h : ZrAt w d) (x : Int) : Calls Try.prog 14 #[.pointer (d.map fun d => ⟨d, 0, none⟩), .int .i64 x] w fun e w' => e = .returned (.int .i64 1) ∧ Below w.heap.size w w' := by
  have HM := Lib.hid (missing_z d h)
  clear h
  generalize (Option.map (fun d => (⟨d, 0, none⟩ : Addr)) d) = D at *
  go_enter Try.func14, Try.ntmps14
  go_wp2_with (fail)
  refine HM.out.mono ?_
  rintro e w1 ⟨rfl, rfl⟩
  go_wp2_with (fail)
  go_ret
  exact ⟨rfl, Below.refl _ _⟩
set_option maxRecDepth 100000 in
theorem copy_z (d : Option Nat) (h : ZrAt w d) : Calls Try.prog 16 #[.pointer (d.map fun d => ⟨d, 0, none⟩)] w fun e w' => e = .returned (.pointer none) ∧ Below w.heap.size w w' := by
  have HM := Lib.hid (missing_z d h)
  clear h
  generalize (Option.map (fun d => (⟨d, 0, none⟩ : Addr)) d) = D at *
  go_enter Try.func16, Try.ntmps16
  go_wp2_with (fail)
  refine HM.out.mono ?_
  rintro e w1 ⟨rfl, rfl⟩
  go_wp2_with (fail)
  go_ret
  exact ⟨rfl, Below.refl _ _⟩
set_option maxRecDepth 100000 in
theorem get_z (d : Option Nat) (h : ZrAt w d) (x : Int) : Calls Try.prog 17 #[.pointer (d.map fun d => ⟨d, 0, none⟩), .int .i64 x] w fun e w' => e = .returned (.tuple #[.int .i64 0, .int .i64 0, .bool false]) ∧ Below w.heap.size w w' := by
  have HM := Lib.hid (has_z d h x)
  clear h
  generalize (Option.map (fun d => (⟨d, 0, none⟩ : Addr)) d) = D at *
  go_enter Try.func17, Try.ntmps17
  go_wp2_with (fail)
  refine HM.out.mono ?_
  rintro e w1 ⟨rfl, rfl⟩
  go_wp2_with (fail)
  go_ret3
  exact ⟨rfl, Below.refl _ _⟩
theorem look_nil (p : Int) (i : Nat) (W : World) : (Instr.lookup 51 (.map none) (.agg #[.int .i64 p, .int .i64 (i : Int)]) true).run Try.prog W = .ok (.tuple #[.int .i64 0, .bool false]) W := by kernel_rfl
theorem askL_none : ∀ n, askL (fun _ => none) n = []
  | 0 => rfl
  | n + 1 => by rw [askL]; exact askL_none n
theorem of_z (d : Option Nat) (h : ZrAt w d) (p : Int) : Calls Try.prog 19 #[.pointer (d.map fun d => ⟨d, 0, none⟩), .int .i64 p] w (TellR (thZ d) [] w) := by
  cases d with
  | none => exact of_none
  | some z =>
    exact of_gen (X := thZ (some z)) (m := none) (F := fun _ => none) (askL_none 1024) ((thZ (some z)).lt w h) (fun W hW => ⟨(World.cell?_of_block (a := ⟨z, 1, none⟩) (hW z rfl)).trans h.c.2, fun i _ => look_nil p i W⟩)
end
theorem rm_none : RmNone IsZr zcM where
  frames := fun {X d w} h hA => by subst h; exact frames_z d hA
  set := fun {X d w} x p q _ _ _ h hA => by subst h; exact set_z d hA x p q
  clear := fun {X d w} x _ h hA => by subst h; exact clear_z d hA x
  get := fun {X d w} x _ h hA => by subst h; exact get_z d hA x
  copy := fun {X d w} h hA => by subst h; exact copy_z d hA
  of := fun {X d w} p _ h hA => by subst h; exact of_z d hA p
  nil := ⟨thZ none, rfl, fun _ _ e => by cases e⟩
  val := fun W => by kernel_rfl
  zero := fun w => ⟨thZ (some w.heap.size), rfl, fun z e => by
    cases e
    exact RowAt.new w zcM _ 2 _ (fun i hi => by
      rcases (show i = 0 ∨ i = 1 by omega) with rfl | rfl <;> rfl), fun k e => by cases e; rfl⟩
end Go.Proofs.Ytjjcbbnnilafdaa
