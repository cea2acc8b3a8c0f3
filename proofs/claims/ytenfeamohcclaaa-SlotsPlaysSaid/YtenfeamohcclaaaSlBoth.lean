/-
  slots' laws: slots and the document's beside it; a copy that goes on.
-/
import Derived.Test.YtenfeamohcclaaaSlRef
namespace Go.Proofs.Ytenfeamohcclaaa
open Go.RowKit Go.Shelf Go

/-- The document's map as a thing. -/
def thR (rb lb N : Nat) (f : Nat → Ownr) : Thg where
  At w := RefM w rb lb N f
  has k := k = rb ∨ k = lb
  only := fun _ _ _ h ho hs => h.only ho (hs _ (.inl rfl)) (hs _ (.inr rfl))
  lt := fun w h k hk => by
    rcases hk with rfl | rfl
    · obtain ⟨_, e⟩ := h.c0
      exact World.block_lt_of_cell? _ _ e
    · exact h.row.lt
/-- Both, apart. -/
abbrev PD (IsS : Thg → Nat → Nat → (Nat → Ownr) → Prop) (d N : Nat) (f : Nat → Ownr) (rb lb : Nat) (g : Nat → Ownr) : Thg → Prop := fun Z => ∃ X, Z = X.two (thR rb lb N g) ∧ IsS X d N f
/-- And a second map. -/
abbrev P3 (IsS : Thg → Nat → Nat → (Nat → Ownr) → Prop) (d N : Nat) (f : Nat → Ownr) (rb lb : Nat) (g : Nat → Ownr) (d2 : Nat) (h : Nat → Ownr) : Thg → Prop :=
  fun Z => ∃ X Y, Z = (X.two (thR rb lb N g)).two Y ∧ IsS X d N f ∧ IsS Y d2 N h
section
variable {IsS : Thg → Nat → Nat → (Nat → Ownr) → Prop} (ok : SlOk IsS) {w0 w w' : World} {d d2 N rb lb : Nat} {f g h2 : Nat → Ownr} {P : Nat → Prop}
theorem RsP.turn {c : Int} {e : Ending} (h : RsP w rb lb N c g e w') : e = .returned (.int .i64 c) ∧ TTurn w (thR rb lb N f) w' (thR rb lb N g) :=
  ⟨h.1, h.2.1, h.2.2.mono (fun _ hk => .inr hk), fun _ hk => .inl hk⟩
theorem new_pd (h : KPT (fun X => IsS X d N f) w0 P w) (n : Int) (hN : capN n = N) : Calls Try.prog 10 #[.int .i64 n] w fun e w' => ∃ rb lb, e = .returned (.pointer (some ⟨rb, 0, none⟩)) ∧ KPT (PD IsS d N f rb lb (fun _ => (0, 0))) w0 P w' := by
  obtain ⟨X, h1, h2, h3, h4, h5⟩ := h
  refine (rnew_any w n).mono ?_
  rintro e w1 ⟨rb, lb, rfl, hR, l1, l2, hb⟩
  rw [hN] at hR
  have hT : TTurn w Thg.no w1 (thR rb lb N (fun _ => (0, 0))) := ⟨hR, Only.of_below hb, fun k hk => .inr (by rcases hk with rfl | rfl <;> assumption)⟩
  exact ⟨rb, lb, rfl, (KPT.turn h3 h4 h5 (Is := PD IsS d N f rb lb (fun _ => (0, 0))) ⟨X, rfl, h1⟩ (TTurn.add h2 hT)).1⟩
theorem KPT.ref_pd (h : KPT (PD IsS d N f rb lb g) w0 P w) : RefM w rb lb N g := by
  obtain ⟨_, ⟨X, rfl, h1⟩, h2, _⟩ := h
  exact h2.2.1
theorem KPT.one_pd (h : KPT (PD IsS d N f rb lb g) w0 P w) : KPT (fun X => IsS X d N f) w0 P w := by
  obtain ⟨_, ⟨X, rfl, h1⟩, h2, h3, h4, h5⟩ := h
  exact ⟨X, h1, h2.1, h3, fun k hk => h4 k (.inl hk), h5⟩
/-- Only the copy goes on. -/
theorem KPT.drop_p3 (h : KPT (P3 IsS d N f rb lb g d2 h2) w0 P w) : KPT (PD IsS d2 N h2 rb lb g) w0 P w := by
  obtain ⟨_, ⟨X, Y, rfl, h1, h6⟩, hA, h3, h4, h5⟩ := h
  exact ⟨Y.two (thR rb lb N g), ⟨Y, rfl, h6⟩, ⟨hA.2.1, hA.1.2.1, fun k hy hr => hA.2.2 k (.inr hr) hy⟩, h3, fun k hk => h4 k (hk.elim .inr (fun h => .inl (.inr h))), h5⟩
theorem rfree_pd (h : KPT (PD IsS d N f rb lb g) w0 P w) (x : Int) (c : Int) (g' : Nat → Ownr) (hc : rcE g N x = c) (hg : rcF g N x = g') : Calls Try.prog 15 #[.pointer (some ⟨rb, 0, none⟩), .int .i64 x] w fun e w' =>
    e = .returned (.int .i64 c) ∧ KPT (PD IsS d N f rb lb g') w0 P w' ∧ Only (fun k => ¬ P k) w w' := by
  subst hc; subst hg
  obtain ⟨_, ⟨X, rfl, h1⟩, h2, h3, h4, h5⟩ := h
  exact (rfree_any h2.2.1 x).mono fun _ _ hR => ⟨hR.1, KPT.turn (Is := PD IsS d N f rb lb (rcF g N x)) h3 h4 h5 ⟨X, rfl, h1⟩ (TTurn.snd h2 (hR.turn (f := g)).2)⟩
include ok
theorem rtake_pd (h : KPT (PD IsS d N f rb lb g) w0 P w) (p q : Int) (k : Nat) (c : Int) (g' : Nat → Ownr) (hk : stK g N p q = k) (hc : stE g N p q = c) (hg : stF g N p q = g') : Calls Try.prog 13 #[.pointer (some ⟨rb, 0, none⟩), .int .i64 p, .int .i64 q] w fun e w' =>
    e = .returned (.tuple #[.int .i64 k, .int .i64 c]) ∧ KPT (PD IsS d N f rb lb g') w0 P w' ∧ Only (fun k => ¬ P k) w w' := by
  subst hk; subst hc; subst hg
  obtain ⟨_, ⟨X, rfl, h1⟩, h2, h3, h4, h5⟩ := h
  exact (rtake_any h2.2.1 (ok.inv h1).le p q).mono fun _ _ hR => ⟨hR.1, KPT.turn (Is := PD IsS d N f rb lb (stF g N p q)) h3 h4 h5 ⟨X, rfl, h1⟩ (TTurn.snd h2 ⟨hR.2.1, hR.2.2.mono (fun _ hk => .inr hk), fun _ hk => .inl hk⟩)⟩
theorem take_pd (h : KPT (PD IsS d N f rb lb g) w0 P w) (p q : Int) (hp : InZ p) (hq : InZ q) (k : Nat) (c : Int) (f' : Nat → Ownr) (hk : stK f N p q = k) (hc : stE f N p q = c) (hg : stF f N p q = f') :
    Calls Try.prog 12 #[.pointer (some ⟨d, 0, none⟩), .int .i64 p, .int .i64 q] w fun e w' => e = .returned (.tuple #[.int .i64 k, .int .i64 c]) ∧ KPT (PD IsS d N f' rb lb g) w0 P w' ∧ Only (fun k => ¬ P k) w w' := by
  subst hk; subst hc; subst hg
  obtain ⟨_, ⟨X, rfl, h1⟩, h2, h3, h4, h5⟩ := h
  exact (ok.take p q hp hq h1 h2.1).mono fun _ _ ⟨Z, e, hZ, hT⟩ => ⟨e, KPT.turn (Is := PD IsS d N (stF f N p q) rb lb g) h3 h4 h5 ⟨Z, rfl, hZ⟩ (TTurn.fst h2 hT)⟩
theorem free_pd (h : KPT (PD IsS d N f rb lb g) w0 P w) (x : Int) (hx : InZ x) (c : Int) (f' : Nat → Ownr) (hc : rcE f N x = c) (hg : rcF f N x = f') :
    Calls Try.prog 14 #[.pointer (some ⟨d, 0, none⟩), .int .i64 x] w fun e w' => e = .returned (.int .i64 c) ∧ KPT (PD IsS d N f' rb lb g) w0 P w' ∧ Only (fun k => ¬ P k) w w' := by
  subst hc; subst hg
  obtain ⟨_, ⟨X, rfl, h1⟩, h2, h3, h4, h5⟩ := h
  exact (ok.free x hx h1 h2.1).mono fun _ _ ⟨Z, e, hZ, hT⟩ => ⟨e, KPT.turn (Is := PD IsS d N (rcF f N x) rb lb g) h3 h4 h5 ⟨Z, rfl, hZ⟩ (TTurn.fst h2 hT)⟩
theorem copy_pd (h : KPT (PD IsS d N f rb lb g) w0 P w) : Calls Try.prog 16 #[.pointer (some ⟨d, 0, none⟩)] w fun e w' => ∃ d2, e = .returned (.pointer (some ⟨d2, 0, none⟩)) ∧ KPT (P3 IsS d N f rb lb g d2 f) w0 P w' ∧ Only (fun k => ¬ P k) w w' := by
  obtain ⟨_, ⟨X, rfl, h1⟩, h2, h3, h4, h5⟩ := h
  refine (ok.copy h1 h2.1).mono ?_
  rintro e w1 ⟨d2, Y, rfl, hY, hT⟩
  exact ⟨d2, rfl, KPT.turn h3 h4 h5 (Is := P3 IsS d N f rb lb g d2 f) ⟨X, Y, rfl, h1, hY⟩ (TTurn.add h2 hT)⟩
theorem free_p3 (h : KPT (P3 IsS d N f rb lb g d2 h2) w0 P w) (x : Int) (hx : InZ x) : Calls Try.prog 14 #[.pointer (some ⟨d, 0, none⟩), .int .i64 x] w fun e w' =>
    ∃ c, e = .returned (.int .i64 c) ∧ KPT (P3 IsS d N (rcF f N x) rb lb g d2 h2) w0 P w' ∧ Only (fun k => ¬ P k) w w' := by
  obtain ⟨_, ⟨X, Y, rfl, h1, h6⟩, hA, h3, h4, h5⟩ := h
  exact (ok.free x hx h1 hA.1.1).mono fun _ _ ⟨Z, e, hZ, hT⟩ => ⟨_, e, KPT.turn (Is := P3 IsS d N (rcF f N x) rb lb g d2 h2) h3 h4 h5 ⟨Z, Y, rfl, hZ, h6⟩ (TTurn.fst hA (TTurn.fst hA.1 hT))⟩
end
end Go.Proofs.Ytenfeamohcclaaa
