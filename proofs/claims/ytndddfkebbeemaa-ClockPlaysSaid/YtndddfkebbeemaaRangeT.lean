/-
  A range over an iterator that turns what lies below it: it tells the i-th, its own state (Rg) goes on with each, the caller's facts (I) abide its turns (Tn); the caller leaves by a return at the latest at round K. Of no program.
-/
import Derived.Test.YtndddfkebbeemaaRangeO
namespace Go.Proofs.Ytndddfkebbeemaa
open Go.RowKit Go

/-- An iterator's contract. -/
def SeqT (F : Fence) (n : Nat) (P : Program) (g : Nat) (lb : Array Value) (encs : Nat → Array Value) (Tn : World → World → Prop) (Rg : Nat → World → Prop) (K : Nat) (w : World) : Prop :=
  ∀ (l : Nat) (J Jx : Nat → World → Prop) (W : World), Below w.heap.size w W → W.heap.size = w.heap.size + 2 → l < W.heap.size → (∀ i X Y, J i X → Tn X Y → J i Y) →
    (∀ i W1, i < K → J i W1 → Rg (i + 1) W1 → YieldAt F (n - 1) P l (encs i) W1 fun e W' =>
      (e = .returned (.bool true) ∧ i + 1 < K ∧ J (i + 1) W' ∧ Rg (i + 1) W') ∨ (e = .returned (.bool false) ∧ Jx i W')) →
    J 0 W → Rg 0 W →
    CallsIn F n P g (#[.func (.yield l) #[] #[]] ++ lb) W fun e W' => (∃ v, e = .returned v) ∧ ∃ i, i < K ∧ Jx i W'
/-- How a round ends. -/
def turnPost (B : Nat) (I Rg Ix : Nat → World → Prop) (K i : Nat) (W : World) : Exit → Act → World → Prop
  | .normal, _, W' => KeepsFrom B W W' ∧ i + 1 < K ∧ I (i + 1) W' ∧ Rg (i + 1) W'
  | .ret, _, W' => KeepsFrom B W W' ∧ Ix i W'
  | .exit _, _, _ => False
  | .goto _, _, _ => False
  | .panic _, _, _ => False
  | .outgrown, _, _ => False
theorem range_t {F : Fence} {n : Nat} {P : Program} {w : World} {g : Operand} {ps : Array Tmp} {assign body : Code} {Q : Exit → Act → World → Prop} {a : Act}
    (hro : F.round = none) (h1 : 1 ≤ n) {gf : Nat} {lb : Array Value} (hg : a.eval g = .func (.func gf) #[] lb) (hFg : F.fn gf) (eg : ∀ args w, (callFunc gf args).run P w = .ok (.enter gf args) w)
    {encs : Nat → Array Value} {Tn : World → World → Prop} {Rg : Nat → World → Prop} {K : Nat} (hseq : SeqT F (n - 1) P gf lb encs Tn Rg K w) (hps : ∀ x, (encs x).size = ps.size)
    (I Ix : Nat → World → Prop) (hI : OwnFrom w.heap.size I) (hIx : OwnFrom w.heap.size Ix) (hRg : OwnFrom w.heap.size Rg)
    (hT : ∀ i X Y, w.heap.size + 2 ≤ X.heap.size → I i X → Tn X Y → I i Y) (hTl : ∀ X Y, w.heap.size + 2 ≤ X.heap.size → Tn X Y → Y.heap[w.heap.size]? = X.heap[w.heap.size]? ∧ Y.heap[w.heap.size + 1]? = X.heap[w.heap.size + 1]?)
    (h0 : I 0 w) (hR0 : ∀ W, Below w.heap.size w W → W.heap.size = w.heap.size + 2 → Rg 0 W) (A : Nat → Act)
    (hassign : ∀ (l i : Nat) (W : World) (K : Act → World → Prop), K (A i) W → assign.wpIn (F.inRound l) (n - 1 - 1) P (Exit.then K (fun _ _ _ => False)) { tmps := (ps.zip (encs i)).foldl (fun t (p, v) => t.setIfInBounds p v) a.tmps, defers := [] } W)
    (hbody : ∀ (l i : Nat) (W : World), w.heap.size ≤ l → l < W.heap.size → i < K → I i W → Rg (i + 1) W → body.wpIn (F.inRound l) (n - 1 - 1) P (turnPost w.heap.size I Rg Ix K i W) (A i) W)
    (hstop : ∀ (D i : Nat) (W : World), w.heap.size ≤ D → i < K → Ix i W → W.heap[D]? = some (.deferred (some [])) → Code.ret.wpIn F n P Q { a with defers := { target := .collected D, args := #[] } :: a.defers } W) :
    (Code.rangeFunc g ps assign body).wpIn F n P Q a w := by
  refine wpIn_rangeFunc fun fn hfn => ?_
  rw [hro]
  obtain ⟨R, hR⟩ : ∃ R : LoopState → Option Code → Loop, R = fun st pe => { state := st, pending := pe, fn, tmps := a.tmps, params := ps, assign, body, defers := w.heap.size } := ⟨_, rfl⟩
  obtain ⟨W1, hW1⟩ : ∃ W1, (w.alloc (.deferred (some []))).alloc (.loop (R .ready none)) = W1 := ⟨_, rfl⟩
  have hbk : Book w.heap.size (R .ready none) W1 := by rw [← hW1]; exact Book.new w _
  have hb1 : Below w.heap.size w W1 := by rw [← hW1]; exact ((Below.refl _ w).alloc (Nat.le_refl _) _).alloc (by simp) _
  have hs1 : W1.heap.size = w.heap.size + 2 := by rw [← hW1]; simp
  have hi1 : I 0 W1 := by rw [← hW1]; exact hI.alloc _ (hI.alloc _ h0)
  have hr1 : Rg 0 W1 := hR0 W1 hb1 hs1
  -- a turn of the loop's own block
  have turn : ∀ {β : Type} {J : β → World → Prop} (_ : OwnFrom w.heap.size J) {s : β} {W : World} {r : Loop} (o' : Obj), J s W → Book w.heap.size r W → J s (W.putObj (w.heap.size + 1) o') :=
    @fun β J hJ s W r o' hs hb => hJ.putObj o' hs (by omega) hb.1 rfl
  refine ⟨w.heap.size + 1, [{ target := .collected w.heap.size, args := #[] }], W1, { target := .fn (.func gf) lb, args := #[.func (.yield (w.heap.size + 1)) #[] #[]] }, W1, gf,
    #[.func (.yield (w.heap.size + 1)) #[] #[]] ++ lb, W1, by rw [← hW1, hR]; exact run_enterLoop_outer _ _ _ _ _, by simp only [resolve, hg]; simp [go_sem], fun f' hf' => by simp [Target.leads] at hf'; subst hf'; exact hFg,
    by simp [invoke, go_sem, eg], fun _ => h1, ?_⟩
  refine (hseq (w.heap.size + 1) (fun i W => I i W ∧ Book w.heap.size (R .ready none) W) (fun i W => Ix i W ∧ Book w.heap.size (R .done (some .ret)) W) W1 hb1 hs1 (by omega)
    (fun i X Y hs ht => by
      have hl := hs.2.lt
      obtain ⟨t0, t1⟩ := hTl X Y (by omega) ht
      exact ⟨hT i X Y (by omega) hs.1 ht, t1.trans hs.2.1, t0.trans hs.2.2⟩) ?_ ⟨hi1, hbk⟩ hr1).mono ?_
  · -- a round
    rintro i W hiK ⟨hi, hb⟩ hrg
    have hlt := hb.lt
    have hy := run_yield (P := P) (args := encs i) hb.1 (by rw [hR]; exact hps i)
    rw [hR] at hy
    refine ⟨fn, _, assign, body, hy, roundIn_of_wpIn hfn (hassign _ i W _ ?_)⟩
    have hbb : Book w.heap.size { R .ready none with state := .busy } (W.putObj (w.heap.size + 1) (.loop { R .ready none with state := .busy })) := hb.put _
    refine ⟨_, run_beginRound hb.1 (by rw [hR]), ?_⟩
    refine wpIn_mono (hbody _ i _ (by omega) hbb.lt hiK (turn hI _ hi hb) (turn hRg _ hrg hb)) ?_
    -- the round's end
    have fin : ∀ (jump : Option Code) (W3 : World), KeepsFrom w.heap.size (W.putObj (w.heap.size + 1) (.loop { R .ready none with state := .busy })) W3 →
        (Instr.endRound (w.heap.size + 1) jump).run P W3 = .ok (.bool jump.isNone) (W3.putObj (w.heap.size + 1) (.loop (R (if jump.isNone then .ready else .done) jump))) ∧
        Book w.heap.size { R .ready none with state := .busy } W3 ∧ Book w.heap.size (R (if jump.isNone then .ready else .done) jump) (W3.putObj (w.heap.size + 1) (.loop (R (if jump.isNone then .ready else .done) jump))) := fun jump W3 hk3 => by
      have hb3 := hbb.keeps hk3
      refine ⟨?_, hb3, hb3.put _⟩
      have h := run_endRound (P := P) jump hb3.1
      rw [hR] at h ⊢
      exact h
    rintro e a3 W3 hp
    cases e with
    | normal =>
      obtain ⟨hk3, hK3, hi3, hr3⟩ := hp
      obtain ⟨hr, hb3, hb4⟩ := fin none W3 hk3
      exact ⟨_, _, hr, .inl ⟨rfl, hK3, ⟨turn hI _ hi3 hb3, hb4⟩, turn hRg _ hr3 hb3⟩⟩
    | ret =>
      obtain ⟨hk3, hx3⟩ := hp
      obtain ⟨hr, hb3, hb4⟩ := fin (some .ret) W3 hk3
      exact ⟨_, _, hr, .inr ⟨rfl, turn hIx _ hx3 hb3, hb4⟩⟩
    | exit id => exact hp.elim
    | goto t => exact hp.elim
    | panic ch => exact hp.elim
    | outgrown => exact hp.elim
  · -- behind the iterator
    rintro e W2 ⟨⟨v, rfl⟩, i, hiK, hx, hb⟩
    refine ⟨some .ret, _, ?_, hstop _ i _ (Nat.le_refl _) hiK (turn hIx _ hx hb) (hb.put { R .done (some .ret) with state := .exhausted }).2⟩
    have h := run_endLoop (P := P) hb.1 (by rw [hR]; simp)
    rw [hR] at h ⊢
    exact h
/-- The least number of a kind. -/
theorem least_there {p : Nat → Prop} : ∀ (n : Nat), p n → ∃ m, p m ∧ ∀ k, p k → m ≤ k := by
  intro n
  induction n using Nat.strongRecOn with
  | _ n ih =>
    intro h
    by_cases h2 : ∃ k, k < n ∧ p k
    · obtain ⟨k, hk, hp⟩ := h2
      exact ih k hk hp
    · exact ⟨n, h, fun k hk => Nat.le_of_not_lt fun hl => h2 ⟨k, hl, hk⟩⟩
open Classical in
noncomputable def leastOf (p : Nat → Prop) : Nat := if h : ∃ m, p m ∧ ∀ k, p k → m ≤ k then Classical.choose h else 0
theorem leastOf_spec {p : Nat → Prop} {n : Nat} (h : p n) : p (leastOf p) ∧ leastOf p ≤ n := by
  have h1 := least_there n h
  unfold leastOf
  rw [dif_pos h1]
  have h2 := Classical.choose_spec h1
  exact ⟨h2.1, h2.2 n h⟩
/-- How many rounds are to come, at least, where R says which is the next. -/
noncomputable def toCome (R : Nat → World → Prop) (K : Nat) (W : World) : Nat := leastOf fun k => ∃ i, i + k = K ∧ R i W
theorem toCome_at {R : Nat → World → Prop} {K i : Nat} {W : World} (h : R i W) (hi : i ≤ K) : ∃ j, j + toCome R K W = K ∧ R j W :=
  (leastOf_spec (p := fun k => ∃ i, i + k = K ∧ R i W) (n := K - i) ⟨i, by omega, h⟩).1
theorem toCome_le {R : Nat → World → Prop} {K i : Nat} {W : World} (h : R i W) (hi : i ≤ K) : toCome R K W ≤ K - i :=
  (leastOf_spec (p := fun k => ∃ i, i + k = K ∧ R i W) (n := K - i) ⟨i, by omega, h⟩).2
end Go.Proofs.Ytndddfkebbeemaa
