/-
  Ranges over an iterator: with two variables that lie in slots of their own; over one that tells nothing. A box with a number. Of no program.
-/
import Derived.Test.YtndddfkebbeemaaIter
namespace Go.Proofs.Ytndddfkebbeemaa
open Go.RowKit Go.Shelf Go

/-- The number that lies there. -/
def cntAt (W : World) (b : Nat) : Nat := match W.cell? ⟨b, 0, none⟩ with
  | some (.int _ n) => n.toNat
  | _ => 0
theorem cntAt_of {W : World} {b k : Nat} (h : W.cell? ⟨b, 0, none⟩ = some (.int .i64 k)) : cntAt W b = k := by simp [cntAt, h]
/-- A round of a loop whose number lies in block b. -/
structure PgAt (V : World) (b k : Nat) (W : World) : Prop where
  pg : RowAt W b 1 (fun _ => .int .i64 k)
  only : Only (fun i => i = b) V W
theorem PgAt.step {V W : World} {b k : Nat} (h : PgAt V b k W) : PgAt V b (k + 1) (W.setCell ⟨b, 0, none⟩ (.int .i64 ((k : Int) + 1))) :=
  ⟨(h.pg.setCell 0 _).ext (fun i hi => by
    obtain rfl : i = 0 := by omega
    simp [updV]), h.only.trans (Only.setCell (S := fun i => i = b) _ ⟨b, 0, none⟩ rfl _)⟩
theorem PgAt.later {V W W' : World} {b k : Nat} (h : PgAt V b k W) (hb : Below W.heap.size W W') : PgAt V b k W' := ⟨h.pg.later hb, h.only.trans (Only.of_below hb)⟩
/-- A range with two variables that lie in slots of their own. -/
theorem range_o2 {F : Fence} {n : Nat} {P : Program} {w : World} {α : Type} {g : Operand} {p1 p2 : Tmp} {assign body : Code} {Q : Exit → Act → World → Prop} {a : Act}
    (hro : F.round = none) (h1 : 1 ≤ n) {gf : Nat} {lb : Array Value} (hg : a.eval g = .func (.func gf) #[] lb) (hFg : F.fn gf) (eg : ∀ args w, (callFunc gf args).run P w = .ok (.enter gf args) w)
    {encs : α → Array Value} {Kp : Nat → World → World → Prop} {O S Sp : List α → Prop} (hseq : SeqO F (n - 1) P gf lb encs Kp O S Sp w) (v1 v2 : α → Value) (henc : ∀ x, encs x = #[v1 x, v2 x])
    (hKt : ∀ {l : Nat} {A B C : World}, Kp l A B → Kp l B C → Kp l A C) (hKb : ∀ (W : World) (l : Nat) (o o' : Obj), w.heap.size ≤ l → W.heap[l]? = some o → o.isCells = false → Kp l W (W.putObj l o'))
    (I : List α → World → Prop) (Ix : Code → List α → World → Prop) (hI : OwnFrom w.heap.size I) (hIx : ∀ c, OwnFrom w.heap.size (Ix c)) (h0 : I [] w) (s1 s2 : Nat)
    (hassign : ∀ (l : Nat) (pre : List α) (x : α) (W : World) (K : Act → World → Prop), w.heap.size ≤ l → I pre W →
      (∀ W', KeepsFrom w.heap.size W W' → I pre W' → Kp l W W' → K { tmps := (((a.tmps.setIfInBounds p1 (v1 x)).setIfInBounds p2 (v2 x)).setIfInBounds s1 (v1 x)).setIfInBounds s2 (v2 x), defers := [] } W') →
      assign.wpIn (F.inRound l) (n - 1 - 1) P (Exit.then K (fun _ _ _ => False)) { tmps := (a.tmps.setIfInBounds p1 (v1 x)).setIfInBounds p2 (v2 x), defers := [] } W)
    (hbody : ∀ (l : Nat) (pre : List α) (x : α) (W0 W : World), w.heap.size ≤ l → I pre W → Kp l W0 W → O (pre ++ [x]) →
      body.wpIn (F.inRound l) (n - 1 - 1) P (soloPost w.heap.size (fun _ => Kp l W0) I Ix (pre ++ [x]) W) { tmps := (((a.tmps.setIfInBounds p1 (v1 x)).setIfInBounds p2 (v2 x)).setIfInBounds s1 (v1 x)).setIfInBounds s2 (v2 x), defers := [] } W)
    (hdone : ∀ (D : Nat) (xs : List α) (W : World), w.heap.size ≤ D → S xs → I xs W → W.heap[D]? = some (.deferred (some [])) → Q .normal { a with defers := { target := .collected D, args := #[] } :: a.defers } W)
    (hstop : ∀ (D : Nat) (c : Code) (pre : List α) (W : World), w.heap.size ≤ D → Sp pre → Ix c pre W → W.heap[D]? = some (.deferred (some [])) → c.wpIn F n P Q { a with defers := { target := .collected D, args := #[] } :: a.defers } W) :
    (Code.rangeFunc g #[p1, p2] assign body).wpIn F n P Q a w := by
  have hf : ∀ x, ((#[p1, p2] : Array Tmp).zip (encs x)).foldl (fun t (p, v) => t.setIfInBounds p v) a.tmps = (a.tmps.setIfInBounds p1 (v1 x)).setIfInBounds p2 (v2 x) := fun x => by
    rw [henc x]
    simp
  refine range_o hro h1 hg hFg eg hseq hKt hKb (fun x => by rw [henc x]; rfl) I Ix hI hIx h0
    (fun l W0 x a' W' => a' = { tmps := (((a.tmps.setIfInBounds p1 (v1 x)).setIfInBounds p2 (v2 x)).setIfInBounds s1 (v1 x)).setIfInBounds s2 (v2 x), defers := [] } ∧ Kp l W0 W')
    (fun l _ _ _ W o o' hl h hb ho => ⟨h.1, hKt h.2 (hKb W l o o' hl hb ho)⟩)
    (fun l pre x W K hl hi hK => ?_)
    (fun l pre x a' W0 W hl hi hax hlen => by obtain ⟨rfl, r⟩ := hax; exact hbody l pre x W0 W hl hi r hlen) hdone hstop
  rw [hf x]
  exact hassign l pre x W K hl hi fun W' k1 k3 k4 => hK _ _ k1 k3 ⟨rfl, k4⟩
/-- A range over an iterator that tells nothing. -/
theorem range_nilT {α : Type} {P : Program} {g : Nat} {lb : Array Value} {enc : α → Array Value} {own : Nat → Prop} {w : World} (m : Nat) (hm : 8 ≤ m) (T : Tells P g lb enc [] own w) (hent : ∀ args W, (callFunc g args).run P W = .ok (.enter g args) W)
    (hown : ∀ k, own k → k < w.heap.size) {gg : Operand} {ps : Array Tmp} {assign body : Code} {Q : Exit → Act → World → Prop} {a : Act} (hps : ∀ x, (enc x).size = ps.size) (hg : a.eval gg = .func (.func g) #[] lb)
    (hdone : ∀ (D : Nat) (W : World), w.heap.size ≤ D → Below w.heap.size w W → W.heap[D]? = some (.deferred (some [])) → Q .normal { a with defers := { target := .collected D, args := #[] } :: a.defers } W) :
    (Code.rangeFunc gg ps assign body).wpIn Fence.wide m P Q a w := by
  have h1 : 1 ≤ m := by omega
  have hsq := T.solo (m - 1) (by omega) (fun _ => False) (fun _ h => h.elim) (fun k hk => ⟨hown k hk, fun h => h⟩)
  exact range_o rfl h1 (gf := g) hg trivial hent hsq KpZ.trans (fun W l o o' _ _ _ => KpZ.put W l o') (fun x => hps _)
    (fun _ W => Below w.heap.size w W) (fun _ _ _ => False) (ownFrom_below (Nat.le_refl _) (Nat.le_refl _)) (fun _ _ _ _ _ h _ _ => h) (Below.refl _ _)
    (fun _ _ _ _ _ => False) (fun _ _ _ _ _ _ _ _ h _ _ => h) (fun _ _ x => absurd x.isLt (Nat.not_lt_zero _)) (fun _ _ x => absurd x.isLt (Nat.not_lt_zero _)) (fun D xs W hD _ hI hK => hdone D W hD hI hK) (fun _ _ _ _ _ _ h _ => h.elim)
/-- A range with two variables that may be broken off. -/
theorem range_b2 {F : Fence} {n : Nat} {P : Program} {w : World} {α : Type} {g : Operand} {p1 p2 : Tmp} {assign body : Code} {Q0 : Exit → Act → World → Prop} {a : Act}
    (hro : F.round = none) (h1 : 1 ≤ n) {gf : Nat} {lb : Array Value} (hg : a.eval g = .func (.func gf) #[] lb) (hFg : F.fn gf) (eg : ∀ args w, (callFunc gf args).run P w = .ok (.enter gf args) w)
    {encs : α → Array Value} {Kp : Nat → World → World → Prop} {O S Sp : List α → Prop} (hseq : SeqO F (n - 1) P gf lb encs Kp O S Sp w) (v1 v2 : α → Value) (henc : ∀ x, encs x = #[v1 x, v2 x])
    (hKt : ∀ {l : Nat} {A B C : World}, Kp l A B → Kp l B C → Kp l A C) (hKb : ∀ (W : World) (l : Nat) (o o' : Obj), w.heap.size ≤ l → W.heap[l]? = some o → o.isCells = false → Kp l W (W.putObj l o'))
    (I Ie : List α → World → Prop) (hI : OwnFrom w.heap.size I) (hIe : OwnFrom w.heap.size Ie) (h0 : I [] w) (s1 s2 id : Nat)
    (hassign : ∀ (l : Nat) (pre : List α) (x : α) (W : World) (K : Act → World → Prop), w.heap.size ≤ l → I pre W →
      (∀ W', KeepsFrom w.heap.size W W' → I pre W' → Kp l W W' → K { tmps := (((a.tmps.setIfInBounds p1 (v1 x)).setIfInBounds p2 (v2 x)).setIfInBounds s1 (v1 x)).setIfInBounds s2 (v2 x), defers := [] } W') →
      assign.wpIn (F.inRound l) (n - 1 - 1) P (Exit.then K (fun _ _ _ => False)) { tmps := (a.tmps.setIfInBounds p1 (v1 x)).setIfInBounds p2 (v2 x), defers := [] } W)
    (hbody : ∀ (l : Nat) (pre : List α) (x : α) (W0 W : World), w.heap.size ≤ l → I pre W → Kp l W0 W → O (pre ++ [x]) →
      body.wpIn (F.inRound l) (n - 1 - 1) P (soloPost w.heap.size (fun _ => Kp l W0) I (fun c pre W => c = Code.exit id ∧ Ie pre W) (pre ++ [x]) W) { tmps := (((a.tmps.setIfInBounds p1 (v1 x)).setIfInBounds p2 (v2 x)).setIfInBounds s1 (v1 x)).setIfInBounds s2 (v2 x), defers := [] } W)
    (hdone : ∀ (D : Nat) (xs : List α) (W : World), w.heap.size ≤ D → (S xs ∧ I xs W ∨ Sp xs ∧ Ie xs W) → W.heap[D]? = some (.deferred (some [])) → Q0 .normal { a with defers := { target := .collected D, args := #[] } :: a.defers } W) :
    (Code.rangeFunc g #[p1, p2] assign body).wpIn F n P (Exit.inBlock id Q0) a w := by
  refine range_o2 hro h1 hg hFg eg hseq v1 v2 henc hKt hKb I (fun c pre W => c = Code.exit id ∧ Ie pre W) hI (fun c s X Y row h hg hr => ⟨h.1, hIe s X Y row h.2 hg hr⟩) h0 s1 s2 hassign hbody
    (fun D xs W hD hS hI hK => hdone D xs W hD (.inl ⟨hS, hI⟩) hK) ?_
  rintro D c pre W hD hS ⟨rfl, hI⟩ hK
  refine wpIn_exit ?_
  simp only [Exit.inBlock, if_true]
  exact hdone D pre W hD (.inr ⟨hS, hI⟩) hK
/-- A range with one variable, in a slot of its own, that may be broken off. -/
theorem range_b1 {F : Fence} {n : Nat} {P : Program} {w : World} {α : Type} {g : Operand} {p1 : Tmp} {assign body : Code} {Q0 : Exit → Act → World → Prop} {a : Act}
    (hro : F.round = none) (h1 : 1 ≤ n) {gf : Nat} {lb : Array Value} (hg : a.eval g = .func (.func gf) #[] lb) (hFg : F.fn gf) (eg : ∀ args w, (callFunc gf args).run P w = .ok (.enter gf args) w)
    {encs : α → Array Value} {Kp : Nat → World → World → Prop} {O S Sp : List α → Prop} (hseq : SeqO F (n - 1) P gf lb encs Kp O S Sp w) (v1 : α → Value) (henc : ∀ x, encs x = #[v1 x])
    (hKt : ∀ {l : Nat} {A B C : World}, Kp l A B → Kp l B C → Kp l A C) (hKb : ∀ (W : World) (l : Nat) (o o' : Obj), w.heap.size ≤ l → W.heap[l]? = some o → o.isCells = false → Kp l W (W.putObj l o'))
    (I Ie : List α → World → Prop) (hI : OwnFrom w.heap.size I) (hIe : OwnFrom w.heap.size Ie) (h0 : I [] w) (s1 id : Nat)
    (hassign : ∀ (l : Nat) (pre : List α) (x : α) (W : World) (K : Act → World → Prop), w.heap.size ≤ l → I pre W →
      (∀ W', KeepsFrom w.heap.size W W' → I pre W' → Kp l W W' → K { tmps := (a.tmps.setIfInBounds p1 (v1 x)).setIfInBounds s1 (v1 x), defers := [] } W') →
      assign.wpIn (F.inRound l) (n - 1 - 1) P (Exit.then K (fun _ _ _ => False)) { tmps := a.tmps.setIfInBounds p1 (v1 x), defers := [] } W)
    (hbody : ∀ (l : Nat) (pre : List α) (x : α) (W0 W : World), w.heap.size ≤ l → I pre W → Kp l W0 W → O (pre ++ [x]) →
      body.wpIn (F.inRound l) (n - 1 - 1) P (soloPost w.heap.size (fun _ => Kp l W0) I (fun c pre W => c = Code.exit id ∧ Ie pre W) (pre ++ [x]) W) { tmps := (a.tmps.setIfInBounds p1 (v1 x)).setIfInBounds s1 (v1 x), defers := [] } W)
    (hdone : ∀ (D : Nat) (xs : List α) (W : World), w.heap.size ≤ D → (S xs ∧ I xs W ∨ Sp xs ∧ Ie xs W) → W.heap[D]? = some (.deferred (some [])) → Q0 .normal { a with defers := { target := .collected D, args := #[] } :: a.defers } W) :
    (Code.rangeFunc g #[p1] assign body).wpIn F n P (Exit.inBlock id Q0) a w := by
  have hf : ∀ x, ((#[p1] : Array Tmp).zip (encs x)).foldl (fun t (p, v) => t.setIfInBounds p v) a.tmps = a.tmps.setIfInBounds p1 (v1 x) := fun x => by
    rw [henc x]
    simp
  refine range_o hro h1 hg hFg eg hseq hKt hKb (fun x => by rw [henc x]; rfl) I (fun c pre W => c = Code.exit id ∧ Ie pre W) hI (fun c s X Y row h hg hr => ⟨h.1, hIe s X Y row h.2 hg hr⟩) h0
    (fun l W0 x a' W' => a' = { tmps := (a.tmps.setIfInBounds p1 (v1 x)).setIfInBounds s1 (v1 x), defers := [] } ∧ Kp l W0 W')
    (fun l _ _ _ W o o' hl h hb ho => ⟨h.1, hKt h.2 (hKb W l o o' hl hb ho)⟩)
    (fun l pre x W K hl hi hK => ?_)
    (fun l pre x a' W0 W hl hi hax hlen => by obtain ⟨rfl, r⟩ := hax; exact hbody l pre x W0 W hl hi r hlen) (fun D xs W hD hS hI hK => hdone D xs W hD (.inl ⟨hS, hI⟩) hK) ?_
  · rw [hf x]
    exact hassign l pre x W K hl hi fun W' k1 k3 k4 => hK _ _ k1 k3 ⟨rfl, k4⟩
  · rintro D c pre W hD hS ⟨rfl, hI⟩ hK
    refine wpIn_exit ?_
    simp only [Exit.inBlock, if_true]
    exact hdone D pre W hD (.inr ⟨hS, hI⟩) hK
/-- A box with a number, all else as it was. -/
structure BxAt (W0 : World) (b : Nat) (n : Int) (W : World) : Prop where
  row : RowAt W b 1 (fun _ => .int .i64 n)
  only : Only (fun k => k = b) W0 W
theorem bx_own {β : Type} {W0 : World} {b : Nat} {n : β → Int} (h : b < W0.heap.size) : OwnFrom W0.heap.size (fun (s : β) W => BxAt W0 b (n s) W) := fun s X Y row i hg hr => by
  have hne : ∀ k, k < W0.heap.size → some k ≠ row := fun k hk e => by have := (hr k e.symm).1; omega
  exact ⟨i.row.block (hg.block b i.row.lt (hne _ h)),
    ⟨hg.os.trans i.only.os, hg.tape.trans i.only.tape, hg.output.trans i.only.output, Nat.le_trans i.only.size hg.size, fun k hk hs => (hg.block k (Nat.lt_of_lt_of_le hk i.only.size) (hne k hk)).trans (i.only.block k hk hs)⟩⟩
theorem bx_new (W : World) (n : Int) (t : TypeId) : RowAt (W.alloc (.cells #[.int .i64 n] t)) W.heap.size 1 (fun _ => .int .i64 n) := RowAt.new W _ _ _ _ fun i hi => by
  obtain rfl : i = 0 := by omega
  rfl
theorem bx_set {W : World} {b : Nat} {n : Int} (R : RowAt W b 1 (fun _ => .int .i64 n)) (m : Int) : RowAt (W.setCell ⟨b, 0, none⟩ (.int .i64 m)) b 1 (fun _ => .int .i64 m) :=
  (R.setCell 0 _).ext fun i hi => by
    obtain rfl : i = 0 := by omega
    simp [updV]
theorem BxAt.step {W0 W : World} {b : Nat} {n : Int} (h : BxAt W0 b n W) (m : Int) : BxAt W0 b m (W.setCell ⟨b, 0, none⟩ (.int .i64 m)) :=
  ⟨bx_set h.row m, h.only.trans (Only.setCell (S := fun k => k = b) _ ⟨b, 0, none⟩ rfl _)⟩
end Go.Proofs.Ytndddfkebbeemaa
