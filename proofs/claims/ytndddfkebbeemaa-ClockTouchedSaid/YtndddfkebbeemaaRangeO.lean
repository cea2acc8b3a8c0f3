/-
  A range over an iterator that tells in an order (O: what may have been told), whatever its body keeps (Kp); the caller's facts abide the loop's own objects. Of no program.
-/
import Derived.Test.YtndddfkebbeemaaSolo
namespace Go.Proofs.Ytndddfkebbeemaa
open Go.RowKit Go

/-- An iterator's contract. -/
def SeqO {α : Type} (F : Fence) (n : Nat) (P : Program) (g : Nat) (lb : Array Value) (encs : α → Array Value) (Kp : Nat → World → World → Prop) (O S Sp : List α → Prop) (w : World) : Prop :=
  ∀ (l : Nat) (J Jx : List α → World → Prop) (W : World), Below w.heap.size w W → w.heap.size ≤ l → l < W.heap.size → OwnFrom W.heap.size J →
    (∀ pre x W1, J pre W1 → O (pre ++ [x]) → YieldAt F (n - 1) P l (encs x) W1 fun e W' =>
      (e = .returned (.bool true) ∧ J (pre ++ [x]) W' ∧ Kp l W1 W') ∨ (e = .returned (.bool false) ∧ Jx (pre ++ [x]) W')) →
    J [] W →
    CallsIn F n P g (#[.func (.yield l) #[] #[]] ++ lb) W fun e W' => (∃ v, e = .returned v) ∧ ((∃ xs, S xs ∧ J xs W') ∨ (∃ pre, Sp pre ∧ Jx pre W'))
/-- The law. The loop's variable is boxed by the assign code: slot sl points at it. -/
theorem range_o {F : Fence} {n : Nat} {P : Program} {w : World} {α : Type} {g : Operand} {ps : Array Tmp} {assign body : Code} {Q : Exit → Act → World → Prop} {a : Act}
    (hro : F.round = none) (h1 : 1 ≤ n) {gf : Nat} {lb : Array Value} (hg : a.eval g = .func (.func gf) #[] lb) (hFg : F.fn gf) (eg : ∀ args w, (callFunc gf args).run P w = .ok (.enter gf args) w)
    {encs : α → Array Value} {Kp : Nat → World → World → Prop} {O S Sp : List α → Prop} (hseq : SeqO F (n - 1) P gf lb encs Kp O S Sp w)
    (hKt : ∀ {l : Nat} {A B C : World}, Kp l A B → Kp l B C → Kp l A C) (hKb : ∀ (W : World) (l : Nat) (o o' : Obj), w.heap.size ≤ l → W.heap[l]? = some o → o.isCells = false → Kp l W (W.putObj l o')) (hps : ∀ x, (encs x).size = ps.size)
    (I : List α → World → Prop) (Ix : Code → List α → World → Prop) (hI : OwnFrom w.heap.size I) (hIx : ∀ c, OwnFrom w.heap.size (Ix c)) (h0 : I [] w)
    (Ax : Nat → World → α → Act → World → Prop) (hAx : ∀ l W0 x a' W o o', w.heap.size ≤ l → Ax l W0 x a' W → W.heap[l]? = some o → o.isCells = false → Ax l W0 x a' (W.putObj l o'))
    (hassign : ∀ (l : Nat) (pre : List α) (x : α) (W : World) (K : Act → World → Prop), w.heap.size ≤ l → I pre W → (∀ a' W', KeepsFrom w.heap.size W W' → I pre W' → Ax l W x a' W' → K a' W') →
      assign.wpIn (F.inRound l) (n - 1 - 1) P (Exit.then K (fun _ _ _ => False)) { tmps := (ps.zip (encs x)).foldl (fun t (p, v) => t.setIfInBounds p v) a.tmps, defers := [] } W)
    (hbody : ∀ (l : Nat) (pre : List α) (x : α) (a' : Act) (W0 W : World), w.heap.size ≤ l → I pre W → Ax l W0 x a' W → O (pre ++ [x]) → body.wpIn (F.inRound l) (n - 1 - 1) P (soloPost w.heap.size (fun _ => Kp l W0) I Ix (pre ++ [x]) W) a' W)
    (hdone : ∀ (D : Nat) (xs : List α) (W : World), w.heap.size ≤ D → S xs → I xs W → W.heap[D]? = some (.deferred (some [])) → Q .normal { a with defers := { target := .collected D, args := #[] } :: a.defers } W)
    (hstop : ∀ (D : Nat) (c : Code) (pre : List α) (W : World), w.heap.size ≤ D → Sp pre → Ix c pre W → W.heap[D]? = some (.deferred (some [])) → c.wpIn F n P Q { a with defers := { target := .collected D, args := #[] } :: a.defers } W) :
    (Code.rangeFunc g ps assign body).wpIn F n P Q a w := by
  refine wpIn_rangeFunc fun fn hfn => ?_
  rw [hro]
  obtain ⟨R, hR⟩ : ∃ R : LoopState → Option Code → Loop, R = fun st pe => { state := st, pending := pe, fn, tmps := a.tmps, params := ps, assign, body, defers := w.heap.size } := ⟨_, rfl⟩
  obtain ⟨W1, hW1⟩ : ∃ W1, (w.alloc (.deferred (some []))).alloc (.loop (R .ready none)) = W1 := ⟨_, rfl⟩
  have hbk : Book w.heap.size (R .ready none) W1 := by rw [← hW1]; exact Book.new w _
  have hb1 : Below w.heap.size w W1 := by rw [← hW1]; exact ((Below.refl _ w).alloc (Nat.le_refl _) _).alloc (by simp) _
  have hs1 : W1.heap.size = w.heap.size + 2 := by rw [← hW1]; simp
  have hi1 : I [] W1 := by rw [← hW1]; exact hI.alloc _ (hI.alloc _ h0)
  -- a turn of the loop's own block
  have turn : ∀ {β : Type} {J : β → World → Prop} (_ : OwnFrom w.heap.size J) {s : β} {W : World} {r : Loop} (o' : Obj), J s W → Book w.heap.size r W → J s (W.putObj (w.heap.size + 1) o') :=
    @fun β J hJ s W r o' hs hb => hJ.putObj o' hs (by omega) hb.1 rfl
  refine ⟨w.heap.size + 1, [{ target := .collected w.heap.size, args := #[] }], W1, { target := .fn (.func gf) lb, args := #[.func (.yield (w.heap.size + 1)) #[] #[]] }, W1, gf,
    #[.func (.yield (w.heap.size + 1)) #[] #[]] ++ lb, W1, by rw [← hW1, hR]; exact run_enterLoop_outer _ _ _ _ _, by simp only [resolve, hg]; simp [go_sem], fun f' hf' => by simp [Target.leads] at hf'; subst hf'; exact hFg,
    by simp [invoke, go_sem, eg], fun _ => h1, ?_⟩
  refine (hseq (w.heap.size + 1) (fun pre W => I pre W ∧ Book w.heap.size (R .ready none) W) (fun pre W => ∃ c, Ix c pre W ∧ Book w.heap.size (R .done (some c)) W) W1 hb1 (by omega) (by omega)
    (fun s X Y row hs hg hr => ⟨own_below hI (by omega) s X Y row hs.1 hg hr, Book.own (β := Unit) _ _ (by omega) () X Y row hs.2 hg hr⟩) ?_ ⟨hi1, hbk⟩).mono ?_
  · -- a round
    rintro pre x W ⟨hi, hb⟩ hlen
    have hy := run_yield (P := P) (args := encs x) hb.1 (by rw [hR]; exact hps x)
    rw [hR] at hy
    refine ⟨fn, _, assign, body, hy, roundIn_of_wpIn hfn (hassign _ pre x W _ (by omega) hi fun a' Wa hk1 hi' hax => ?_)⟩
    have hba := hb.keeps hk1
    have hbb : Book w.heap.size { R .ready none with state := .busy } (Wa.putObj (w.heap.size + 1) (.loop { R .ready none with state := .busy })) := hba.put _
    refine ⟨_, run_beginRound hba.1 (by rw [hR]), ?_⟩
    refine wpIn_mono (hbody _ pre x a' W _ (by omega) (turn hI _ hi' hba) (hAx _ _ _ _ _ _ _ (by omega) hax hba.1 rfl) hlen) ?_
    -- the round's end
    have fin : ∀ (jump : Option Code) (W3 : World), KeepsFrom w.heap.size (Wa.putObj (w.heap.size + 1) (.loop { R .ready none with state := .busy })) W3 →
        (Instr.endRound (w.heap.size + 1) jump).run P W3 = .ok (.bool jump.isNone) (W3.putObj (w.heap.size + 1) (.loop (R (if jump.isNone then .ready else .done) jump))) ∧
        Book w.heap.size { R .ready none with state := .busy } W3 ∧ Book w.heap.size (R (if jump.isNone then .ready else .done) jump) (W3.putObj (w.heap.size + 1) (.loop (R (if jump.isNone then .ready else .done) jump))) := fun jump W3 hk3 => by
      have hb3 := hbb.keeps hk3
      refine ⟨?_, hb3, hb3.put _⟩
      have h := run_endRound (P := P) jump hb3.1
      rw [hR] at h ⊢
      exact h
    have jumps : ∀ (c : Code) (W3 : World), KeepsFrom w.heap.size (Wa.putObj (w.heap.size + 1) (.loop { R .ready none with state := .busy })) W3 ∧ Kp (w.heap.size + 1) W W3 ∧ Ix c (pre ++ [x]) W3 →
        ∃ v W4, (Instr.endRound (w.heap.size + 1) (some c)).run P W3 = .ok v W4 ∧ ((Ending.returned v = .returned (.bool true) ∧ (I (pre ++ [x]) W4 ∧ Book w.heap.size (R .ready none) W4) ∧ Kp (w.heap.size + 1) W W4) ∨
          (Ending.returned v = .returned (.bool false) ∧ (∃ c, Ix c (pre ++ [x]) W4 ∧ Book w.heap.size (R .done (some c)) W4))) := fun c W3 h => by
      obtain ⟨hr, hb3, hb4⟩ := fin (some c) W3 h.1
      exact ⟨_, _, hr, .inr ⟨rfl, ⟨c, turn (hIx c) _ h.2.2 hb3, hb4⟩⟩⟩
    rintro e a3 W3 hp
    cases e with
    | normal =>
      obtain ⟨hk3, hp3, hi3⟩ := hp
      obtain ⟨hr, hb3, hb4⟩ := fin none W3 hk3
      exact ⟨_, _, hr, .inl ⟨rfl, ⟨turn hI _ hi3 hb3, hb4⟩, hKt hp3 (hKb _ _ _ _ (by omega) hb3.1 rfl)⟩⟩
    | ret => exact jumps .ret W3 hp
    | exit id => exact jumps (.exit id) W3 hp
    | goto t => exact jumps (.goto t) W3 hp
    | panic ch => exact hp.elim
    | outgrown => exact hp.elim
  · -- behind the iterator
    rintro e W2 ⟨⟨v, rfl⟩, (⟨xs, hS, hi, hb⟩ | ⟨pre, hSp, c, hi, hb⟩)⟩
    · refine ⟨none, _, ?_, hdone _ xs _ (Nat.le_refl _) hS (turn hI _ hi hb) (hb.put { R .ready none with state := .exhausted }).2⟩
      have h := run_endLoop (P := P) hb.1 (by rw [hR]; simp)
      rw [hR] at h ⊢
      exact h
    · refine ⟨some c, _, ?_, hstop _ c pre _ (Nat.le_refl _) hSp (turn (hIx c) _ hi hb) (hb.put { R .done (some c) with state := .exhausted }).2⟩
      have h := run_endLoop (P := P) hb.1 (by rw [hR]; simp)
      rw [hR] at h ⊢
      exact h
/-- Where the loop's variable is boxed by the assign code: slot sl points at its box zb, of which R speaks. -/
theorem range_oB {F : Fence} {n : Nat} {P : Program} {w : World} {α : Type} {g : Operand} {ps : Array Tmp} {assign body : Code} {Q : Exit → Act → World → Prop} {a : Act}
    (hro : F.round = none) (h1 : 1 ≤ n) {gf : Nat} {lb : Array Value} (hg : a.eval g = .func (.func gf) #[] lb) (hFg : F.fn gf) (eg : ∀ args w, (callFunc gf args).run P w = .ok (.enter gf args) w)
    {encs : α → Array Value} {Kp : Nat → World → World → Prop} {O S Sp : List α → Prop} (hseq : SeqO F (n - 1) P gf lb encs Kp O S Sp w)
    (hKt : ∀ {l : Nat} {A B C : World}, Kp l A B → Kp l B C → Kp l A C) (hKb : ∀ (W : World) (l : Nat) (o o' : Obj), w.heap.size ≤ l → W.heap[l]? = some o → o.isCells = false → Kp l W (W.putObj l o')) (hps : ∀ x, (encs x).size = ps.size)
    (I : List α → World → Prop) (Ix : Code → List α → World → Prop) (hI : OwnFrom w.heap.size I) (hIx : ∀ c, OwnFrom w.heap.size (Ix c)) (h0 : I [] w) (sl : Nat) (R : Nat → World → α → Nat → World → Prop) (hR : ∀ l W0 x zb W o o', w.heap.size ≤ l → R l W0 x zb W → W.heap[l]? = some o → o.isCells = false → R l W0 x zb (W.putObj l o'))
    (hassign : ∀ (l : Nat) (pre : List α) (x : α) (W : World) (K : Act → World → Prop), w.heap.size ≤ l → I pre W →
      (∀ zb W', KeepsFrom w.heap.size W W' → I pre W' → R l W x zb W' → K { tmps := ((ps.zip (encs x)).foldl (fun t (p, v) => t.setIfInBounds p v) a.tmps).setIfInBounds sl (.pointer (some ⟨zb, 0, none⟩)), defers := [] } W') →
      assign.wpIn (F.inRound l) (n - 1 - 1) P (Exit.then K (fun _ _ _ => False)) { tmps := (ps.zip (encs x)).foldl (fun t (p, v) => t.setIfInBounds p v) a.tmps, defers := [] } W)
    (hbody : ∀ (l : Nat) (pre : List α) (x : α) (zb : Nat) (W0 W : World), w.heap.size ≤ l → I pre W → R l W0 x zb W → O (pre ++ [x]) →
      body.wpIn (F.inRound l) (n - 1 - 1) P (soloPost w.heap.size (fun _ => Kp l W0) I Ix (pre ++ [x]) W) { tmps := ((ps.zip (encs x)).foldl (fun t (p, v) => t.setIfInBounds p v) a.tmps).setIfInBounds sl (.pointer (some ⟨zb, 0, none⟩)), defers := [] } W)
    (hdone : ∀ (D : Nat) (xs : List α) (W : World), w.heap.size ≤ D → S xs → I xs W → W.heap[D]? = some (.deferred (some [])) → Q .normal { a with defers := { target := .collected D, args := #[] } :: a.defers } W)
    (hstop : ∀ (D : Nat) (c : Code) (pre : List α) (W : World), w.heap.size ≤ D → Sp pre → Ix c pre W → W.heap[D]? = some (.deferred (some [])) → c.wpIn F n P Q { a with defers := { target := .collected D, args := #[] } :: a.defers } W) :
    (Code.rangeFunc g ps assign body).wpIn F n P Q a w :=
  range_o hro h1 hg hFg eg hseq hKt hKb hps I Ix hI hIx h0
    (fun l W0 x a' W' => ∃ zb : Nat, a' = { tmps := ((ps.zip (encs x)).foldl (fun t (p, v) => t.setIfInBounds p v) a.tmps).setIfInBounds sl (.pointer (some ⟨zb, 0, none⟩)), defers := [] } ∧ R l W0 x zb W')
    (fun l W0 x _ W o o' hl h hb ho => by obtain ⟨zb, e, r⟩ := h; exact ⟨zb, e, hR l W0 x zb W o o' hl r hb ho⟩)
    (fun l pre x W K hl hi hK => hassign l pre x W K hl hi fun zb W' k1 k3 k4 => hK _ _ k1 k3 ⟨zb, rfl, k4⟩)
    (fun l pre x a' W0 W hl hi hax hlen => by obtain ⟨zb, rfl, r⟩ := hax; exact hbody l pre x zb W0 W hl hi r hlen) hdone hstop
end Go.Proofs.Ytndddfkebbeemaa
