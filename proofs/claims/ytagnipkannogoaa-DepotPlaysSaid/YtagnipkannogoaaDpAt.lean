/-
  depot: the landed depot as it lies: a number, the full magazines' objects one behind the other, the queue; which of its blocks turn.
-/
import Derived.Test.YtagnipkannogoaaDpLawFull
namespace Go.Proofs.Ytagnipkannogoaa
open Go.RowKit Go

structure DP where
  p : Nat
  l : Value
  o : Value
def DP.has (D : DP) (k : Nat) : Prop := k = D.p ∨ D.l.ownBlock = some k ∨ D.o.ownBlock = some k
def dV (N : Nat) (D : DP) (i : Nat) : Value := if i = 0 then .int .i64 N else if i = 1 then D.l else D.o
/-- It lies. -/
structure DAt (w : World) (D : DP) (N : Nat) (L O : Obs) : Prop where
  row : RowAt w D.p 3 (dV N D)
  lo : w.ownsRow 0 TO 2 D.l L.length (recV encO L)
  ot : w.ownsRow 0 TO 2 D.o O.length (recV encO O)
  pl : D.l.ownBlock ≠ some D.p
  po : D.o.ownBlock ≠ some D.p
  ap : ∀ k, D.l.ownBlock = some k → D.o.ownBlock ≠ some k
section
variable {w w' w1 : World} {D D' D2 : DP} {N : Nat} {L O : Obs}
theorem DAt.lt (h : DAt w D N L O) {k : Nat} (hk : D.has k) : k < w.heap.size := by
  rcases hk with rfl | hk | hk
  · exact h.row.lt
  · exact (h.lo.lt k hk).2
  · exact (h.ot.lt k hk).2
theorem DAt.only {S : Nat → Prop} (h : DAt w D N L O) (ho : Only S w w') (hs : ∀ k, D.has k → ¬ S k) : DAt w' D N L O :=
  ⟨h.row.only ho (hs _ (.inl rfl)), owns_only h.lo ho (fun k hk => hs k (.inr (.inl hk))), owns_only h.ot ho (fun k hk => hs k (.inr (.inr hk))), h.pl, h.po, h.ap⟩
theorem DAt.later (h : DAt w D N L O) (hb : Below w.heap.size w w') : DAt w' D N L O :=
  ⟨h.row.later hb, owns_later h.lo hb, owns_later h.ot hb, h.pl, h.po, h.ap⟩
theorem DAt.c0 (h : DAt w D N L O) : w.cell? ⟨D.p, 0, none⟩ = some (.int .i64 N) := h.row.cell 0 (by decide)
theorem DAt.c1 (h : DAt w D N L O) : w.cell? ⟨D.p, 1, none⟩ = some D.l := h.row.cell 1 (by decide)
theorem DAt.c2 (h : DAt w D N L O) : w.cell? ⟨D.p, 2, none⟩ = some D.o := h.row.cell 2 (by decide)
theorem DAt.fz (h : DAt w D N L O) (i : Nat) : w.frozen? ⟨D.p, i, none⟩ = false := h.row.frozen i
theorem DAt.ls (h : DAt w D N L O) : ∃ a c, D.l = .slice a L.length c := owns_len h.lo
theorem DAt.os (h : DAt w D N L O) : ∃ a c, D.o = .slice a O.length c := owns_len h.ot
end
/-- The depot, as a thing. -/
def thD (D : DP) (N : Nat) (L O : Obs) : Thg := ⟨fun w => DAt w D N L O, D.has, fun _ _ _ h ho hs => h.only ho hs, fun _ h _ hk => h.lt hk⟩
section
variable {w w' w1 : World} {D D' D2 : DP} {N : Nat} {L O L' O' : Obs}
theorem Only.wide {S : Nat → Prop} (h : Only S w w') : Only (fun k => S k ∨ w.heap.size ≤ k) w w' := h.mono (fun _ hk => .inl hk)
theorem TTurn.trans {X Y Z : Thg} (h : TTurn w X w1 Y) (h2 : TTurn w1 Y w' Z) : TTurn w X w' Z := by
  refine ⟨h2.at', ?_, fun k hk => ?_⟩
  · have h3 : Only (fun k => X.has k ∨ w.heap.size ≤ k) w w' := h.only.wide.trans (h2.only.mono (fun k hk => h.new k hk))
    exact ⟨h3.os, h3.tape, h3.output, h3.size, fun k hk hs => h3.block k hk (fun e => e.elim hs (fun e => by omega))⟩
  · rcases h2.new k hk with h3 | h3
    · exact h.new k h3
    · exact .inr (Nat.le_trans h.only.size h3)
theorem TTurn.later {X Y : Thg} (h : TTurn w X w1 Y) (hb : Below w1.heap.size w1 w') : TTurn w X w' Y :=
  ⟨Y.only (fun _ => False) w1 w' h.at' (Only.of_below hb) (fun _ _ h => h), h.only.trans (Only.of_below hb), h.new⟩
theorem TTurn.of_below {X : Thg} (h : X.At w) (hb : Below w.heap.size w w') : TTurn w X w' X :=
  ⟨X.only (fun _ => False) w w' h (Only.of_below hb) (fun _ _ h => h), Only.of_below hb, fun _ hk => .inl hk⟩
/-- The full magazines' list is another one. -/
theorem DAt.setL (h : DAt w D N L O) {S : Nat → Prop} (h1 : Only S w w1) (hS : ∀ k, S k → D.l.ownBlock = some k) {v : Value} {L' : Obs} (hv : w1.ownsRow 0 TO 2 v L'.length (recV encO L')) (hb : ∀ k, v.ownBlock = some k → D.l.ownBlock = some k ∨ w.heap.size ≤ k) :
    TTurn w (thD D N L O) (w1.setCell ⟨D.p, 1, none⟩ v) (thD ⟨D.p, v, D.o⟩ N L' O) := by
  have hp : ¬ S D.p := fun e => h.pl (hS _ e)
  have hvp : v.ownBlock ≠ some D.p := fun e => by
    rcases hb _ e with h2 | h2
    · exact h.pl h2
    · have := h.row.lt; omega
  have hst : Only (Eq D.p) w1 (w1.setCell ⟨D.p, 1, none⟩ v) := Only.setCell (S := Eq D.p) _ ⟨D.p, 1, none⟩ rfl _
  have hvo : ∀ k, v.ownBlock = some k → D.o.ownBlock ≠ some k := fun k e e2 => by
    rcases hb _ e with h2 | h2
    · exact h.ap k h2 e2
    · have := (h.ot.lt k e2).2; omega
  refine ⟨⟨((h.row.only h1 hp).setCell 1 v).ext (fun i hi => ?_), owns_only hv hst (fun k hk e => hvp (by rw [e]; exact hk)), ?_, hvp, h.po, hvo⟩, ?_, ?_⟩
  · unfold updV dV
    rcases (show i = 0 ∨ i = 1 ∨ i = 2 by omega) with rfl | rfl | rfl <;> simp
  · exact owns_only (owns_only h.ot h1 (fun k hk e => h.ap k (hS k e) hk)) hst (fun k hk e => h.po (by rw [e]; exact hk))
  · exact (h1.mono (fun k hk => .inr (.inl (hS k hk)))).trans (hst.mono (fun k hk => .inl hk.symm))
  · rintro k (e | e | e)
    · exact .inl (.inl e)
    · rcases hb k e with h2 | h2
      · exact .inl (.inr (.inl h2))
      · exact .inr h2
    · exact .inl (.inr (.inr e))
/-- The queue is another one. -/
theorem DAt.setO (h : DAt w D N L O) {S : Nat → Prop} (h1 : Only S w w1) (hS : ∀ k, S k → D.o.ownBlock = some k) {v : Value} {O' : Obs} (hv : w1.ownsRow 0 TO 2 v O'.length (recV encO O')) (hb : ∀ k, v.ownBlock = some k → D.o.ownBlock = some k ∨ w.heap.size ≤ k) :
    TTurn w (thD D N L O) (w1.setCell ⟨D.p, 2, none⟩ v) (thD ⟨D.p, D.l, v⟩ N L O') := by
  have hp : ¬ S D.p := fun e => h.po (hS _ e)
  have hvp : v.ownBlock ≠ some D.p := fun e => by
    rcases hb _ e with h2 | h2
    · exact h.po h2
    · have := h.row.lt; omega
  have hst : Only (Eq D.p) w1 (w1.setCell ⟨D.p, 2, none⟩ v) := Only.setCell (S := Eq D.p) _ ⟨D.p, 2, none⟩ rfl _
  have hvo : ∀ k, D.l.ownBlock = some k → v.ownBlock ≠ some k := fun k e e2 => by
    rcases hb _ e2 with h2 | h2
    · exact h.ap k e h2
    · have := (h.lo.lt k e).2; omega
  refine ⟨⟨((h.row.only h1 hp).setCell 2 v).ext (fun i hi => ?_), ?_, owns_only hv hst (fun k hk e => hvp (by rw [e]; exact hk)), h.pl, hvp, hvo⟩, ?_, ?_⟩
  · unfold updV dV
    rcases (show i = 0 ∨ i = 1 ∨ i = 2 by omega) with rfl | rfl | rfl <;> simp
  · exact owns_only (owns_only h.lo h1 (fun k hk e => h.ap k hk (hS k e))) hst (fun k hk e => h.pl (by rw [e]; exact hk))
  · exact (h1.mono (fun k hk => .inr (.inr (hS k hk)))).trans (hst.mono (fun k hk => .inl hk.symm))
  · rintro k (e | e | e)
    · exact .inl (.inl e)
    · exact .inl (.inr (.inl e))
    · rcases hb k e with h2 | h2
      · exact .inl (.inr (.inr h2))
      · exact .inr h2
/-- Both are gone. -/
theorem DAt.none2 (h : DAt w D N L O) : TTurn w (thD D N L O) ((w.setCell ⟨D.p, 1, none⟩ (.slice none 0 0)).setCell ⟨D.p, 2, none⟩ (.slice none 0 0)) (thD ⟨D.p, .slice none 0 0, .slice none 0 0⟩ N [] []) := by
  have n0 : ∀ k, (Value.slice none 0 0).ownBlock ≠ some k := fun k e => by cases e
  have h1 := h.setL (w1 := w) (S := fun _ => False) (Only.refl _ _) (fun k e => e.elim) (v := .slice none 0 0) (L' := []) (World.ownsRow_nil _ _ _ _) (fun k hk => absurd hk (n0 k))
  have h2 := h1.at'.setO (w1 := w.setCell ⟨D.p, 1, none⟩ (.slice none 0 0)) (S := fun _ => False) (Only.refl _ _) (fun k e => e.elim) (v := .slice none 0 0) (O' := []) (World.ownsRow_nil _ _ _ _) (fun k hk => absurd hk (n0 k))
  exact h1.trans h2
end
/-- What the laws want of it. -/
def IsD (X : Thg) (d N : Nat) (F : List Obs) (Q : Obs) : Prop := (∃ D : DP, D.p = d ∧ X = thD D N F.flatten Q) ∧ 1 ≤ N ∧ N ≤ 32 ∧ F.length ≤ 64 ∧ ∀ m ∈ F, m.length = N
section
variable {w w' : World} {D D' : DP} {N : Nat} {F F' : List Obs} {L Q Q' : Obs}
theorem flat_le (h3 : N ≤ 32) (h1 : F.length ≤ 64) (h2 : ∀ m ∈ F, m.length = N) : F.flatten.length ≤ 2048 := by
  rw [flat_len h2]
  exact Nat.mul_le_mul h1 h3
set_option maxRecDepth 100000 in
set_option maxHeartbeats 2000000 in
theorem missing_any (h : DAt w D N L Q) (h1 : 1 ≤ N) : Calls Try.prog 27 #[.pointer (some ⟨D.p, 0, none⟩)] w fun e w' => e = .returned (.bool false) ∧ w = w' := by
  have c0 := h.c0
  have hN : ((N : Int) == 0) = false := by rw [beq_eq_false_iff_ne]; omega
  clear h h1
  obtain ⟨p, l, o⟩ := D
  dsimp only at c0 ⊢
  go_enter Try.func27, Try.ntmps27
  go_wp2_with (fail)
  go_ret
  exact ⟨rfl, rfl⟩
set_option maxRecDepth 100000 in
set_option maxHeartbeats 2000000 in
theorem rounds_any (h : DAt w D N L Q) : Calls Try.prog 11 #[.pointer (some ⟨D.p, 0, none⟩)] w fun e w' => e = .returned (.int .i64 N) ∧ w = w' := by
  have c0 := h.c0
  clear h
  obtain ⟨p, l, o⟩ := D
  dsimp only at c0 ⊢
  go_enter Try.func11, Try.ntmps11
  go_wp2_with (fail)
  go_ret
  exact ⟨rfl, rfl⟩
set_option maxRecDepth 100000 in
set_option maxHeartbeats 2000000 in
theorem queued_any (h : DAt w D N L Q) : Calls Try.prog 24 #[.pointer (some ⟨D.p, 0, none⟩)] w fun e w' => e = .returned (.int .i64 Q.length) ∧ w = w' := by
  have c2 := h.c2
  obtain ⟨a, c, ho⟩ := h.os
  clear h
  obtain ⟨p, l, o⟩ := D
  dsimp only at c2 ho ⊢
  subst ho
  go_enter Try.func24, Try.ntmps24
  go_wp2_with (fail)
  go_ret
  exact ⟨rfl, rfl⟩
set_option maxRecDepth 100000 in
set_option maxHeartbeats 2000000 in
theorem fulls_any (h : DAt w D N F.flatten Q) (h1 : 1 ≤ N) (h3 : N ≤ 32) (hF : F.length ≤ 64) (hm : ∀ m ∈ F, m.length = N) : Calls Try.prog 23 #[.pointer (some ⟨D.p, 0, none⟩)] w fun e w' => e = .returned (.int .i64 F.length) ∧ Below w.heap.size w w' := by
  have HM := Lib.hid (missing_any h h1)
  have c0 := h.c0
  have c1 := h.c1
  obtain ⟨a, c, ho⟩ := h.ls
  have hN : ((N : Int) == 0) = false := by rw [beq_eq_false_iff_ne]; omega
  have hlen := flat_le h3 hF hm
  have hdiv : ((F.flatten.length : Nat) : Int).tdiv (N : Int) = (F.length : Int) := by
    rw [flat_len hm]
    rw [Int.natCast_mul, Int.tdiv_eq_ediv_of_nonneg (Int.mul_nonneg (Int.natCast_nonneg _) (Int.natCast_nonneg _))]
    exact Int.mul_ediv_cancel _ (by omega)
  have hdiv2 : wrap64 (((F.flatten.length : Nat) : Int) / (N : Int)) = (F.length : Int) := by
    rw [Int.tdiv_eq_ediv_of_nonneg (Int.natCast_nonneg _)] at hdiv
    rw [hdiv]
    exact IntWalk.wrap64_in _ ⟨by omega, by omega⟩
  have HD := Lib.hid hdiv2
  clear h hm hdiv hdiv2
  obtain ⟨p, l, o⟩ := D
  dsimp only at c0 c1 ho HM ⊢
  subst ho
  generalize F.flatten.length = n at *
  go_enter Try.func23, Try.ntmps23
  go_wp2_with (fail)
  refine HM.out.mono ?_
  rintro e w1 ⟨rfl, rfl⟩
  go_wp2_with (fail)
  go_quiet (fail)
  go_wp2_with (fail)
  go_ret
  exact ⟨congrArg (fun x => Ending.returned (.int .i64 x)) HD.out, below_drewN (Below.refl _ _) _⟩
end
end Go.Proofs.Ytagnipkannogoaa
