/-
  areas' laws: play: a call whose answer is not looked at.
-/
import Derived.Test.YthnkbipdlepbaaaArKnown
import Derived.Test.YthnkbipdlepbaaaArOps
namespace Go.Proofs.Ythnkbipdlepbaaa
open Go.RowKit Go
/-- Areas that stand somehow. -/
def AKs (IsA : Thg → Nat → (Nat → Nat) → Prop) (w0 : World) (d : Nat) (w : World) : Prop := ∃ f, AK IsA w0 d f w
/-- What comes of a call. -/
def playA (f : Nat → Nat) (o : OpA) : Nat → Nat := if o.kind = 1 then mapA f o.page o.count o.rights else if o.kind = 2 then unmA f o.page o.count else if o.kind = 3 then proA f o.page o.count o.rights else f
theorem TTurn.boxed {w w' : World} {X Y : Thg} {ob : Obj} (h : TTurn (w.alloc ob) X w' Y) : TTurn w X w' Y :=
  ⟨h.at', (Only.alloc _ w ob).trans h.only, fun k hk => (h.new k hk).imp id (fun h => by simp at h; omega)⟩
section
variable {IsA : Thg → Nat → (Nat → Nat) → Prop} (ok : AreasOk IsA) {w0 w : World} {X : Thg} {d : Nat} {f : Nat → Nat}
include ok
set_option maxRecDepth 100000 in
set_option maxHeartbeats 2000000 in
theorem play_t (hX : IsA X d f) (hA : X.At w) (o : OpA) (hr : o.ok) : Calls Try.prog 25 #[.pointer (some ⟨d, 0, none⟩), .agg #[.int .i64 o.kind, .int .i64 o.page, .int .i64 o.count, .int .u8 o.rights]] w fun e w' => e = .returned (.tuple #[]) ∧ ∃ Y, IsA Y d (playA f o) ∧ TTurn w X w' Y := by
  have HX := Lib.hid hX
  have HA := Lib.hid (X.later hA ((Below.refl _ _).alloc (Nat.le_refl _) (.cells #[.int .i64 o.kind, .int .i64 o.page, .int .i64 o.count, .int .u8 o.rights] 30)))
  obtain ⟨kind, p, c, r⟩ := o
  dsimp only [OpA.ok] at hr
  have HR := Lib.hid hr
  unfold playA
  dsimp only at HA ⊢
  clear hX hA hr
  by_cases k1 : kind = 1
  · subst k1
    rw [if_pos rfl]
    go_enter Try.func25, Try.ntmps25
    go_wp2_with (fail)
    refine (ok.map p c r HR.out HX.out HA.out).mono ?_
    rintro e w2 ⟨Y, rfl, h2, hT⟩
    have H2 := Lib.hid h2
    have HT := Lib.hid (TTurn.boxed hT)
    clear h2 hT
    go_wp2_with (fail)
    go_end0
    exact ⟨rfl, Y, H2.out, HT.out⟩
  · have e1 : (kind == 1) = false := beq_eq_false_iff_ne.2 k1
    by_cases k2 : kind = 2
    · subst k2
      rw [if_neg (by decide)]
      rw [if_pos rfl]
      go_enter Try.func25, Try.ntmps25
      go_wp2_with (fail)
      refine (ok.unmap p c HR.out.2 HX.out HA.out).mono ?_
      rintro e w2 ⟨Y, rfl, h2, hT⟩
      have H2 := Lib.hid h2
      have HT := Lib.hid (TTurn.boxed hT)
      clear h2 hT
      go_wp2_with (fail)
      go_end0
      exact ⟨rfl, Y, H2.out, HT.out⟩
    · have e2 : (kind == 2) = false := beq_eq_false_iff_ne.2 k2
      by_cases k3 : kind = 3
      · subst k3
        rw [if_neg (by decide)]
        rw [if_neg (by decide)]
        rw [if_pos rfl]
        go_enter Try.func25, Try.ntmps25
        go_wp2_with (fail)
        refine (ok.protect p c r HR.out HX.out HA.out).mono ?_
        rintro e w2 ⟨Y, rfl, h2, hT⟩
        have H2 := Lib.hid h2
        have HT := Lib.hid (TTurn.boxed hT)
        clear h2 hT
        go_wp2_with (fail)
        go_end0
        exact ⟨rfl, Y, H2.out, HT.out⟩
      · have e3 : (kind == 3) = false := beq_eq_false_iff_ne.2 k3
        rw [if_neg k1, if_neg k2, if_neg k3]
        go_enter Try.func25, Try.ntmps25
        go_wp2_with (fail)
        go_end0
        exact ⟨rfl, X, HX.out, HA.out, Only.alloc _ _ _, fun k hk => .inl hk⟩
theorem play_ak (H : AK IsA w0 d f w) (o : OpA) (hr : o.ok) : Calls Try.prog 25 #[.pointer (some ⟨d, 0, none⟩), .agg #[.int .i64 o.kind, .int .i64 o.page, .int .i64 o.count, .int .u8 o.rights]] w fun e w' => e = .returned (.tuple #[]) ∧ AK IsA w0 d (playA f o) w' := by
  obtain ⟨X, h1, h2, h3, h4⟩ := H
  exact (play_t ok h1 h2 o hr).mono fun _ _ ⟨e, Y, hY, hT⟩ => ⟨e, AK.turn h3 h4 hY hT⟩
end
end Go.Proofs.Ythnkbipdlepbaaa
