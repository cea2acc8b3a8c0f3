/-
  clock's laws: All, ranged over by a body that appends what is told to a boxed list.
-/
import Derived.Test.YtndddfkebbeemaaClTold
import Derived.Test.YtndddfkebbeemaaRangeP
namespace Go.Proofs.Ytndddfkebbeemaa
open Go.RowKit Go.Shelf Go
attribute [local go_sem] Oper.semAt_some

abbrev TIs : TypeId := 38
abbrev TIn : TypeId := 3
theorem hteI : (TIs : TypeId) ≠ TIn := by decide
/-- A range with one variable that lies in a slot of its own. -/
theorem range_o1 {F : Fence} {n : Nat} {P : Program} {w : World} {α : Type} {g : Operand} {p1 : Tmp} {assign body : Code} {Q : Exit → Act → World → Prop} {a : Act}
    (hro : F.round = none) (h1 : 1 ≤ n) {gf : Nat} {lb : Array Value} (hg : a.eval g = .func (.func gf) #[] lb) (hFg : F.fn gf) (eg : ∀ args w, (callFunc gf args).run P w = .ok (.enter gf args) w)
    {encs : α → Array Value} {Kp : Nat → World → World → Prop} {O S Sp : List α → Prop} (hseq : SeqO F (n - 1) P gf lb encs Kp O S Sp w) (v1 : α → Value) (henc : ∀ x, encs x = #[v1 x])
    (hKt : ∀ {l : Nat} {A B C : World}, Kp l A B → Kp l B C → Kp l A C) (hKb : ∀ (W : World) (l : Nat) (o o' : Obj), w.heap.size ≤ l → W.heap[l]? = some o → o.isCells = false → Kp l W (W.putObj l o'))
    (I : List α → World → Prop) (Ix : Code → List α → World → Prop) (hI : OwnFrom w.heap.size I) (hIx : ∀ c, OwnFrom w.heap.size (Ix c)) (h0 : I [] w) (s1 : Nat)
    (hassign : ∀ (l : Nat) (pre : List α) (x : α) (W : World) (K : Act → World → Prop), w.heap.size ≤ l → I pre W →
      (∀ W', KeepsFrom w.heap.size W W' → I pre W' → Kp l W W' → K { tmps := (a.tmps.setIfInBounds p1 (v1 x)).setIfInBounds s1 (v1 x), defers := [] } W') →
      assign.wpIn (F.inRound l) (n - 1 - 1) P (Exit.then K (fun _ _ _ => False)) { tmps := a.tmps.setIfInBounds p1 (v1 x), defers := [] } W)
    (hbody : ∀ (l : Nat) (pre : List α) (x : α) (W0 W : World), w.heap.size ≤ l → I pre W → Kp l W0 W → O (pre ++ [x]) →
      body.wpIn (F.inRound l) (n - 1 - 1) P (soloPost w.heap.size (fun _ => Kp l W0) I Ix (pre ++ [x]) W) { tmps := (a.tmps.setIfInBounds p1 (v1 x)).setIfInBounds s1 (v1 x), defers := [] } W)
    (hdone : ∀ (D : Nat) (xs : List α) (W : World), w.heap.size ≤ D → S xs → I xs W → W.heap[D]? = some (.deferred (some [])) → Q .normal { a with defers := { target := .collected D, args := #[] } :: a.defers } W)
    (hstop : ∀ (D : Nat) (c : Code) (pre : List α) (W : World), w.heap.size ≤ D → Sp pre → Ix c pre W → W.heap[D]? = some (.deferred (some [])) → c.wpIn F n P Q { a with defers := { target := .collected D, args := #[] } :: a.defers } W) :
    (Code.rangeFunc g #[p1] assign body).wpIn F n P Q a w := by
  have hf : ∀ x, ((#[p1] : Array Tmp).zip (encs x)).foldl (fun t (p, v) => t.setIfInBounds p v) a.tmps = a.tmps.setIfInBounds p1 (v1 x) := fun x => by
    rw [henc x]
    simp
  refine range_o hro h1 hg hFg eg hseq hKt hKb (fun x => by rw [henc x]; rfl) I Ix hI hIx h0
    (fun l W0 x a' W' => a' = { tmps := (a.tmps.setIfInBounds p1 (v1 x)).setIfInBounds s1 (v1 x), defers := [] } ∧ Kp l W0 W')
    (fun l _ _ _ W o o' hl h hb ho => ⟨h.1, hKt h.2 (hKb W l o o' hl hb ho)⟩)
    (fun l pre x W K hl hi hK => ?_)
    (fun l pre x a' W0 W hl hi hax hlen => by obtain ⟨rfl, r⟩ := hax; exact hbody l pre x W0 W hl hi r hlen) hdone hstop
  rw [hf x]
  exact hassign l pre x W K hl hi fun W' k1 k3 k4 => hK _ _ k1 k3 ⟨rfl, k4⟩
/-- The boxed slice holds what has been told. -/
def GrowN (w : World) (bx : Nat) (L : List Nat) (pre : List (Fin L.length)) (W : World) : Prop :=
  ∃ v, Boxed W bx TIs v ∧ W.ownsRow w.heap.size TIn 1 v pre.length (recV encI (toldL L pre)) ∧ Only (fun k => k = bx) w W
theorem growN_own {w : World} {bx : Nat} (L : List Nat) (hbx : bx < w.heap.size) : OwnFrom w.heap.size (GrowN w bx L) := by
  rintro s X Y row ⟨v, hv, hr, ho⟩ hg hrow
  refine ⟨v, hv.kept hg (fun e => ?_), hr.kept hg ?_, hg.os.trans ho.os, hg.tape.trans ho.tape, hg.output.trans ho.output, Nat.le_trans ho.size hg.size, fun k hk hs => (hg.block k (by have := ho.size; omega) (fun e => by have := (hrow k e.symm).1; omega)).trans (ho.block k hk hs)⟩
  · have := (hrow bx e.symm).1
    omega
  · rcases hr.2 with ⟨rfl, _⟩ | ⟨g, cap, cur, rfl, _, hgb, _⟩
    · exact .inl rfl
    · refine .inr fun e' => ?_
      obtain ⟨_, o, ho, hc⟩ := hrow g (by simpa [Value.ownBlock] using e'.symm)
      rw [hgb] at ho; cases ho; cases hc
/-- A boxed list of numbers. -/
structure BxL (w : World) (bx : Nat) (v : Value) (M : List Nat) (W : World) : Prop where
  box : Boxed W bx TIs v
  row : W.ownsRow w.heap.size TIn 1 v M.length (recV encI M)
  low : w.heap.size ≤ bx
section
variable {w W W' : World} {bx : Nat} {v : Value} {M : List Nat} {S : Nat → Prop}
theorem BxL.only (h : BxL w bx v M W) (ho : Only S W W') (h1 : ¬ S bx) (h2 : ∀ k, v.ownBlock = some k → ¬ S k) : BxL w bx v M W' :=
  ⟨(ho.block bx h.box.lt h1).trans h.box, owns_only h.row ho h2, h.low⟩
theorem BxL.later (h : BxL w bx v M W) (hb : Below W.heap.size W W') : BxL w bx v M W' :=
  ⟨(hb.block bx h.box.lt).trans h.box, owns_later h.row hb, h.low⟩
theorem BxL.slice (h : BxL w bx v M W) : ∃ a cap, v = .slice a M.length cap := by
  obtain ⟨a, cap, rfl, _⟩ := RecsAt.of_owns h.row
  exact ⟨a, cap, rfl⟩
theorem BxL.at {la : Option Addr} {lc n : Nat} (h : BxL w bx (.slice la n lc) M W) (j x : Nat) (hx : M[j]? = some x) : ∃ g, la = some ⟨g, 0, none⟩ ∧ W.cell? ⟨g, j, none⟩ = some (.int .i64 x) := by
  obtain ⟨a, cap, e, hR⟩ := RecsAt.of_owns h.row
  injection e with e1 _ _
  subst e1
  obtain ⟨hj, hx⟩ := List.getElem?_eq_some_iff.1 hx
  obtain ⟨g, rfl, _, _, hr⟩ := hR.get encI_len j hj
  refine ⟨g, rfl, ?_⟩
  have := hr 0 (.int .i64 x) (by rw [hx]; rfl)
  simpa using this
end
/-- What All tells, beside the law's blocks P. -/
def TellC (P : Nat → Prop) (L : List Nat) (w : World) (e : Ending) (w' : World) : Prop :=
  ∃ g lb own, e = .returned (.func (.func g) #[] lb) ∧ Below w.heap.size w w' ∧ (∀ args W, (callFunc g args).run Try.prog W = .ok (.enter g args) W) ∧
    (∀ W, (binOp .eql TSeq1 (.func (.func g) #[] lb) .nilFunc).run Try.prog W = .ok (.bool false) W) ∧ (∀ k, own k → k < w'.heap.size ∧ ¬ P k) ∧
    Tells Try.prog g lb inV L own w'
section
variable {IsC : Thg → Nat → List Fr → Prop} (ok : ClOk IsC) {w0 w : World} {d : Nat} {L : List Fr} {P : Nat → Prop}
include ok
theorem all_cl (h : KPT (fun X => IsC X d L) w0 P w) : Calls Try.prog 23 #[.pointer (some ⟨d, 0, none⟩)] w (TellC P (namesL L) w) := by
  obtain ⟨X, h1, h2, h3, h4, h5⟩ := h
  refine (ok.all h1 h2).mono ?_
  rintro e w' ⟨g, lb, own, e1, e2, e3, e4, e5, e6⟩
  refine ⟨g, lb, own, e1, e2, e3, e4, fun k hk => ⟨(e5 k hk).2, fun hq => ?_⟩, e6⟩
  rcases (e5 k hk).1 with h | h
  · exact (h4 k h).2 hq
  · have := h5 k hq
    omega
end
end Go.Proofs.Ytndddfkebbeemaa
