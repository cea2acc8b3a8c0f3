/-
  clock's laws: the clock and the document's beside it; a copy that goes on.
-/
import Derived.Test.YtndddfkebbeemaaClRx
namespace Go.Proofs.Ytndddfkebbeemaa
open Go.RowKit Go.Shelf Go

/-- Both, apart. -/
abbrev PD (IsC : Thg → Nat → List Fr → Prop) (d : Nat) (L : List Fr) (r : Nat) (M : List Fr) : Thg → Prop := fun Z => ∃ X v, Z = X.two (thRf r v M) ∧ IsC X d L
/-- And a second clock. -/
abbrev P3 (IsC : Thg → Nat → List Fr → Prop) (d : Nat) (L : List Fr) (r : Nat) (M : List Fr) (d2 : Nat) (L2 : List Fr) : Thg → Prop :=
  fun Z => ∃ X v Y, Z = (X.two (thRf r v M)).two Y ∧ IsC X d L ∧ IsC Y d2 L2
section
variable {IsC : Thg → Nat → List Fr → Prop} (ok : ClOk IsC) {w0 w w' : World} {d d2 r : Nat} {L M L2 : List Fr} {P : Nat → Prop}
theorem KPT.one_pd (h : KPT (PD IsC d L r M) w0 P w) : KPT (fun X => IsC X d L) w0 P w := by
  obtain ⟨_, ⟨X, v, rfl, h1⟩, h2, h3, h4, h5⟩ := h
  exact ⟨X, h1, h2.1, h3, fun k hk => h4 k (.inl hk), h5⟩
theorem KPT.ref_pd (h : KPT (PD IsC d L r M) w0 P w) : ∃ v, RfV w r v M ∧ ∀ k, k = r ∨ v.ownBlock = some k → w0.heap.size ≤ k ∧ ¬ P k := by
  obtain ⟨_, ⟨X, v, rfl, h1⟩, h2, h3, h4, h5⟩ := h
  exact ⟨v, h2.2.1, fun k hk => h4 k (.inr hk)⟩
/-- Only the copy goes on. -/
theorem KPT.drop_p3 (h : KPT (P3 IsC d L r M d2 L2) w0 P w) : KPT (PD IsC d2 L2 r M) w0 P w := by
  obtain ⟨_, ⟨X, v, Y, rfl, h1, h6⟩, hA, h3, h4, h5⟩ := h
  exact ⟨Y.two (thRf r v M), ⟨Y, v, rfl, h6⟩, ⟨hA.2.1, hA.1.2.1, fun k hy hr => hA.2.2 k (.inr hr) hy⟩, h3, fun k hk => h4 k (hk.elim .inr (fun h => .inl (.inr h))), h5⟩
/-- The document's turns. -/
theorem ref_turn {f : Nat} {args : Array Value} {x : Value} {M' : List Fr} (h : KPT (PD IsC d L r M) w0 P w) (hc : ∀ v, RfV w r v M → Calls Try.prog f args w (RfT w r v M x M')) : Calls Try.prog f args w fun e w' =>
    e = .returned x ∧ KPT (PD IsC d L r M') w0 P w' ∧ Only (fun k => ¬ P k) w w' := by
  obtain ⟨_, ⟨X, v, rfl, h1⟩, h2, h3, h4, h5⟩ := h
  refine (hc v h2.2.1).mono ?_
  rintro e w1 ⟨rfl, v', hT⟩
  exact ⟨rfl, KPT.turn (Is := PD IsC d L r M') h3 h4 h5 ⟨X, v', rfl, h1⟩ (TTurn.snd h2 hT)⟩
theorem radd_pd (I : ClI M) (h : KPT (PD IsC d L r M) w0 P w) (x c : Int) (M' : List Fr) (hc : addE M x = c) (hM : addL M x = M') :
    Calls Try.prog 12 #[.pointer (some ⟨r, 0, none⟩), .int .i64 x] w fun e w' => e = .returned (.int .i64 c) ∧ KPT (PD IsC d L r M') w0 P w' ∧ Only (fun k => ¬ P k) w w' := by
  subst hc; subst hM
  exact ref_turn h (fun v hv => radd_any hv I x)
theorem rrem_pd (I : ClI M) (h : KPT (PD IsC d L r M) w0 P w) (x c : Int) (M' : List Fr) (hc : noE M x = c) (hM : remL M x = M') :
    Calls Try.prog 14 #[.pointer (some ⟨r, 0, none⟩), .int .i64 x] w fun e w' => e = .returned (.int .i64 c) ∧ KPT (PD IsC d L r M') w0 P w' ∧ Only (fun k => ¬ P k) w w' := by
  subst hc; subst hM
  exact ref_turn h (fun v hv => rrem_any hv I x)
theorem rtouch_pd (I : ClI M) (h : KPT (PD IsC d L r M) w0 P w) (x c : Int) (M' : List Fr) (hc : noE M x = c) (hM : touL M x = M') :
    Calls Try.prog 16 #[.pointer (some ⟨r, 0, none⟩), .int .i64 x] w fun e w' => e = .returned (.int .i64 c) ∧ KPT (PD IsC d L r M') w0 P w' ∧ Only (fun k => ¬ P k) w w' := by
  subst hc; subst hM
  exact ref_turn h (fun v hv => rtouch_any hv I x)
theorem rnext_pd (I : ClI M) (h : KPT (PD IsC d L r M) w0 P w) (n : Nat) (b : Bool) (M' : List Fr) (hv : nextL M = ((n, b), M')) :
    Calls Try.prog 18 #[.pointer (some ⟨r, 0, none⟩)] w fun e w' => e = .returned (.tuple #[.int .i64 n, .bool b]) ∧ KPT (PD IsC d L r M') w0 P w' ∧ Only (fun k => ¬ P k) w w' := by
  have h2 := ref_turn h (fun v hv => rnext_any hv I.len)
  rw [hv] at h2
  exact h2
/-- The document's begins. -/
theorem new_pd (h : KPT (fun X => IsC X d L) w0 P w) : KPT (PD IsC d L w.heap.size []) w0 P (w.alloc (.cells #[.slice none 0 0] 29)) := by
  obtain ⟨X, h1, h2, h3, h4, h5⟩ := h
  have hb := (Below.refl w.heap.size w).alloc (Nat.le_refl _) (.cells #[.slice none 0 0] 29)
  have hT : TTurn w Thg.no (w.alloc (.cells #[.slice none 0 0] 29)) (thRf w.heap.size (.slice none 0 0) []) :=
    ⟨⟨RowAt.new w _ _ 1 _ (fun i hi => by
      obtain rfl : i = 0 := by omega
      rfl), World.ownsRow_nil _ _ _ _, fun e => by cases e⟩, Only.of_below hb, fun k hk => .inr (by
        rcases hk with rfl | hk
        · exact Nat.le_refl _
        · cases hk)⟩
  exact (KPT.turn h3 h4 h5 (Is := PD IsC d L w.heap.size []) ⟨X, _, rfl, h1⟩ (TTurn.add h2 hT)).1
theorem land_turn {f : Nat} {args : Array Value} {x : Value} {L' : List Fr} (h : KPT (PD IsC d L r M) w0 P w) (hc : ∀ X, IsC X d L → X.At w → Calls Try.prog f args w fun e w' => ∃ Y, e = .returned x ∧ IsC Y d L' ∧ TTurn w X w' Y) : Calls Try.prog f args w fun e w' =>
    e = .returned x ∧ KPT (PD IsC d L' r M) w0 P w' ∧ Only (fun k => ¬ P k) w w' := by
  obtain ⟨_, ⟨X, v, rfl, h1⟩, h2, h3, h4, h5⟩ := h
  refine (hc X h1 h2.1).mono ?_
  rintro e w1 ⟨Z, rfl, hZ, hT⟩
  exact ⟨rfl, KPT.turn (Is := PD IsC d L' r M) h3 h4 h5 ⟨Z, v, rfl, hZ⟩ (TTurn.fst h2 hT)⟩
include ok
theorem add_pd (h : KPT (PD IsC d L r M) w0 P w) (x : Int) (hx : InZ x) (hl : L.length < 1000) (c : Int) (L' : List Fr) (hc : addE L x = c) (hM : addL L x = L') :
    Calls Try.prog 11 #[.pointer (some ⟨d, 0, none⟩), .int .i64 x] w fun e w' => e = .returned (.int .i64 c) ∧ KPT (PD IsC d L' r M) w0 P w' ∧ Only (fun k => ¬ P k) w w' := by
  subst hc; subst hM
  exact land_turn h (fun X h1 h2 => ok.add x hx hl h1 h2)
theorem remove_pd (h : KPT (PD IsC d L r M) w0 P w) (x : Int) (hx : InZ x) (c : Int) (L' : List Fr) (hc : noE L x = c) (hM : remL L x = L') :
    Calls Try.prog 13 #[.pointer (some ⟨d, 0, none⟩), .int .i64 x] w fun e w' => e = .returned (.int .i64 c) ∧ KPT (PD IsC d L' r M) w0 P w' ∧ Only (fun k => ¬ P k) w w' := by
  subst hc; subst hM
  exact land_turn h (fun X h1 h2 => ok.remove x hx h1 h2)
theorem touch_pd (h : KPT (PD IsC d L r M) w0 P w) (x : Int) (hx : InZ x) (c : Int) (L' : List Fr) (hc : noE L x = c) (hM : touL L x = L') :
    Calls Try.prog 15 #[.pointer (some ⟨d, 0, none⟩), .int .i64 x] w fun e w' => e = .returned (.int .i64 c) ∧ KPT (PD IsC d L' r M) w0 P w' ∧ Only (fun k => ¬ P k) w w' := by
  subst hc; subst hM
  exact land_turn h (fun X h1 h2 => ok.touch x hx h1 h2)
theorem next_pd (h : KPT (PD IsC d L r M) w0 P w) (n : Nat) (b : Bool) (L' : List Fr) (hv : nextL L = ((n, b), L')) :
    Calls Try.prog 17 #[.pointer (some ⟨d, 0, none⟩)] w fun e w' => e = .returned (.tuple #[.int .i64 n, .bool b]) ∧ KPT (PD IsC d L' r M) w0 P w' ∧ Only (fun k => ¬ P k) w w' := by
  refine land_turn h (fun X h1 h2 => ?_)
  have h3 := ok.next h1 h2
  rw [hv] at h3
  exact h3
theorem copy_pd (h : KPT (PD IsC d L r M) w0 P w) : Calls Try.prog 19 #[.pointer (some ⟨d, 0, none⟩)] w fun e w' => ∃ d2, e = .returned (.pointer (some ⟨d2, 0, none⟩)) ∧ KPT (P3 IsC d L r M d2 L) w0 P w' ∧ Only (fun k => ¬ P k) w w' := by
  obtain ⟨_, ⟨X, v, rfl, h1⟩, h2, h3, h4, h5⟩ := h
  refine (ok.copy h1 h2.1).mono ?_
  rintro e w1 ⟨d2, Y, rfl, hY, hT⟩
  exact ⟨d2, rfl, KPT.turn h3 h4 h5 (Is := P3 IsC d L r M d2 L) ⟨X, v, Y, rfl, h1, hY⟩ (TTurn.add h2 hT)⟩
theorem add_p3 (h : KPT (P3 IsC d L r M d2 L2) w0 P w) (x : Int) (hx : InZ x) (hl : L.length < 1000) : Calls Try.prog 11 #[.pointer (some ⟨d, 0, none⟩), .int .i64 x] w fun e w' =>
    ∃ c L', e = .returned (.int .i64 c) ∧ KPT (P3 IsC d L' r M d2 L2) w0 P w' ∧ Only (fun k => ¬ P k) w w' := by
  obtain ⟨_, ⟨X, v, Y, rfl, h1, h6⟩, hA, h3, h4, h5⟩ := h
  exact (ok.add x hx hl h1 hA.1.1).mono fun _ _ ⟨Z, e, hZ, hT⟩ => ⟨_, _, e, KPT.turn (Is := P3 IsC d (addL L x) r M d2 L2) h3 h4 h5 ⟨Z, v, Y, rfl, hZ, h6⟩ (TTurn.fst hA (TTurn.fst hA.1 hT))⟩
theorem next_p3 (h : KPT (P3 IsC d L r M d2 L2) w0 P w) : Calls Try.prog 17 #[.pointer (some ⟨d, 0, none⟩)] w fun e w' =>
    ∃ (n : Nat) (b : Bool) (L' : List Fr), e = .returned (.tuple #[.int .i64 n, .bool b]) ∧ KPT (P3 IsC d L' r M d2 L2) w0 P w' ∧ Only (fun k => ¬ P k) w w' := by
  obtain ⟨_, ⟨X, v, Y, rfl, h1, h6⟩, hA, h3, h4, h5⟩ := h
  exact (ok.next h1 hA.1.1).mono fun _ _ ⟨Z, e, hZ, hT⟩ => ⟨_, _, _, e, KPT.turn (Is := P3 IsC d (nextL L).2 r M d2 L2) h3 h4 h5 ⟨Z, v, Y, rfl, hZ, h6⟩ (TTurn.fst hA (TTurn.fst hA.1 hT))⟩
end
end Go.Proofs.Ytndddfkebbeemaa
