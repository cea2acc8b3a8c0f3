/-
  A region that draws its order, walked in one given order: what only reads is taken first, and a call is met where it alone may come up. Of no program.
-/
import Derived.Test.YtkmjkkeldbocdaaDoorKept
import Derived.OrdersHeld
import Derived.Deep.RegionHeld3
namespace Go.Proofs.YtkmjkkeldbocdaaDoor
open Go.RowKit Go

/-- The walk in a given order: at a number marked 'false' the operation yields its value in every world that meets S; at one marked 'true' it is met as it is. -/
def LexH (P : Program) (ops : Array Oper) (Q : Exit → Act → World → Prop) (S : World → Prop) (K : Act → World → Prop) : List (Nat × Bool) → Act → World → Prop
  | [], a, w => K a w
  | (i, false) :: r, a, w => ∃ o v, ops[i]? = some o ∧ YieldsIf P ops S o v a ∧ LexH P ops Q S K r (a.put o.dst v) w
  | (i, true) :: r, a, w => wpOp P ops Q i (fun a' w' => S w' ∧ LexH P ops Q S K r a' w') a w

/-- The order is one that serves. -/
def schedB (md : Region.Mode) (ops : Array Oper) : List (Nat × Bool) → Array Bool → Bool
  | [], listed => (Region.ready md ops listed).isEmpty
  | (i, false) :: r, listed => Region.free md ops listed i && ((Region.ready md ops listed).contains i && schedB md ops r (listed.setIfInBounds i true))
  | (i, true) :: r, listed => (Region.ready md ops listed == [i]) && schedB md ops r (listed.setIfInBounds i true)

theorem wpAnyH_of_lex {P : Program} {ops : Array Oper} {Q : Exit → Act → World → Prop} {S : World → Prop} {md : Region.Mode} (hs : Region.noSelect ops = true)
    (hQ : ∀ c a d v w, Q (.panic c) (Act.put a d v) w → Q (.panic c) a w) :
    ∀ (l : List (Nat × Bool)) (listed : Array Bool) (a : Act) (w : World), schedB md ops l listed = true → S w → LexH P ops Q S (Q .normal) l a w → wpAnyH P md ops Q S l.length listed a w
  | [], listed, a, w, hb, _, h => wpAnyH_done (by simpa [schedB] using hb) h 0
  | (i, false) :: r, listed, a, w, hb, hS, ⟨o, v, hi, hy, h⟩ => by
    simp only [schedB, Bool.and_eq_true] at hb
    exact wpAnyH_take hi hs hb.1 hb.2.1 (fun c a w => hQ c a o.dst v w) hy hS (wpAnyH_of_lex hs hQ r _ _ w hb.2.2 hS h)
  | (i, true) :: r, listed, a, w, hb, _, h => by
    simp only [schedB, Bool.and_eq_true, beq_iff_eq] at hb
    refine wpAnyH_all hb.1 (by simp) (fun j hj => ?_)
    obtain rfl : j = i := by simpa using hj
    exact wpOp_mono (fun a' w' hh => ⟨hh.1, wpAnyH_of_lex hs hQ r _ a' w' hb.2 hh.1 hh.2⟩) h

theorem wp_region_lex {P : Program} {id : Nat} {l : List Oper} {Q : Exit → Act → World → Prop} {a : Act} {w : World} (S : World → Prop) (order : List (Nat × Bool)) (hm : P.follows .mixedOrders = true)
    (hs : Region.noSelect l.toArray = true) (hn : order.length = l.toArray.size) (hb : schedB .any l.toArray order (Array.replicate l.toArray.size false) = true)
    (hS : S { w with drawn := w.drawn + 1 }) (h : ∀ W, S W → LexH P l.toArray (NoPanic Q) S (NoPanic Q .normal) order a W) : (Code.region id l.toArray true).wp P Q a w :=
  wp_region_noPanic (wp_region_held hm (hn ▸ wpAnyH_of_lex hs (fun _ _ _ _ _ h => h) order _ a _ hb hS (h _ hS)))

/-- The same, where S says what the reads want alone: the walk begins in the region's own first world. -/
theorem wp_region_lex1 {P : Program} {id : Nat} {l : List Oper} {Q : Exit → Act → World → Prop} {a : Act} {w : World} (S : World → Prop) (order : List (Nat × Bool)) (hm : P.follows .mixedOrders = true)
    (hs : Region.noSelect l.toArray = true) (hn : order.length = l.toArray.size) (hb : schedB .any l.toArray order (Array.replicate l.toArray.size false) = true)
    (hS : S w.drew) (h : ∀ W, W = w.drew → S W → LexH P l.toArray (NoPanic Q) S (NoPanic Q .normal) order a W) : (Code.region id l.toArray true).wp P Q a w :=
  wp_region_noPanic (wp_region_held hm (hn ▸ wpAnyH_of_lex hs (fun _ _ _ _ _ h => h) order _ a _ hb hS (h _ rfl hS)))


/-- Whatever order is picked, and S holds behind every operation that is carried out but f. -/
def wpAnyF (P : Program) (md : Region.Mode) (ops : Array Oper) (Q : Exit → Act → World → Prop) (S : World → Prop) (f : Nat) : Nat → Array Bool → Act → World → Prop
  | 0, listed, a, w => Region.ready md ops listed = [] ∧ Q .normal a w
  | fuel + 1, listed, a, w =>
    (Region.ready md ops listed = [] → Q .normal a w) ∧
    ∀ i ∈ Region.ready md ops listed, wpOp P ops Q i (fun a' w' => (i = f ∨ listed.getD f false = true ∨ S w') ∧ wpAnyF P md ops Q S f fuel (listed.setIfInBounds i true) a' w') a w
theorem wpAny_of_F {P : Program} {md : Region.Mode} {ops : Array Oper} {Q : Exit → Act → World → Prop} {S : World → Prop} {f : Nat} : ∀ (fuel : Nat) (listed : Array Bool) (a : Act) (w : World), wpAnyF P md ops Q S f fuel listed a w → wpAny P md ops Q fuel listed a w
  | 0, _, _, _, h => h
  | fuel + 1, _, _, _, h => ⟨h.1, fun i hi => wpOp_mono (fun a' w' h' => wpAny_of_F fuel _ a' w' h'.2) (h.2 i hi)⟩
/-- What has come up has had all come up that it waits for. -/
def Closed (md : Region.Mode) (ops : Array Oper) (listed : Array Bool) : Prop := ∀ j o, ops[j]? = some o → listed.getD j false = true → ∀ e ∈ o.after, Region.binds md e = true → listed.getD e.on false = true
theorem Closed.add {md : Region.Mode} {ops : Array Oper} {listed : Array Bool} {j : Nat} (h : Closed md ops listed) (hj : j ∈ Region.ready md ops listed) : Closed md ops (listed.setIfInBounds j true) := by
  intro k o ho hk e he hb
  refine getD_set_true ?_
  by_cases hjk : j = k
  · subst hjk
    obtain ⟨_, o', ho', hall⟩ := mem_ready.1 hj
    rw [ho] at ho'
    cases ho'
    exact hall e he hb
  · rw [getD_set_ne false hjk] at hk
    exact h k o ho hk e he hb
theorem Closed.start (md : Region.Mode) (ops : Array Oper) (n : Nat) : Closed md ops (Array.replicate n false) := by
  intro j o _ h
  simp only [Array.getD_eq_getD_getElem?, Array.getElem?_replicate] at h
  split at h <;> cases h
/-- x waits for i. -/
def reachB (md : Region.Mode) (ops : Array Oper) (i : Nat) : Nat → Nat → Bool
  | 0, _ => false
  | fuel + 1, x => match ops[x]? with
    | none => false
    | some o => o.after.any fun e => Region.binds md e && (e.on == i || reachB md ops i fuel e.on)
theorem reach_listed {md : Region.Mode} {ops : Array Oper} {listed : Array Bool} {i : Nat} (hc : Closed md ops listed) : ∀ (fuel x : Nat) (o : Oper), ops[x]? = some o →
    (∀ e ∈ o.after, Region.binds md e = true → listed.getD e.on false = true) → reachB md ops i fuel x = true → listed.getD i false = true
  | 0, _, _, _, _, h => by cases h
  | fuel + 1, x, o, ho, hall, h => by
    unfold reachB at h
    rw [ho] at h
    obtain ⟨e, he, h2⟩ := Array.any_eq_true'.1 h
    simp only [Bool.and_eq_true, Bool.or_eq_true, beq_iff_eq] at h2
    obtain ⟨hb, h3 | h3⟩ := h2
    · rw [← h3]; exact hall e he hb
    · cases fuel with
      | zero => cases h3
      | succ fuel =>
        have h4 := h3
        unfold reachB at h4
        cases ho2 : ops[e.on]? with
        | none => rw [ho2] at h4; cases h4
        | some o2 => exact reach_listed hc _ e.on o2 ho2 (hc e.on o2 ho2 (hall e he hb)) h3

theorem reach_self {md : Region.Mode} {ops : Array Oper} {listed : Array Bool} {i n : Nat} (h : reachB md ops i n i = true) (hc : Closed md ops listed) (hr : i ∈ Region.ready md ops listed) : False := by
  obtain ⟨h0, o, ho, hall⟩ := mem_ready.1 hr
  have h1 := reach_listed hc n i o ho hall h
  rcases Nat.lt_or_ge i listed.size with h' | h'
  · simp [h'] at h0 h1; rw [h0] at h1; cases h1
  · simp [Array.getElem?_eq_none h'] at h1
theorem wpAnyF_first {P : Program} {md : Region.Mode} {ops : Array Oper} {Q : Exit → Act → World → Prop} {S : World → Prop} {f i n : Nat} {oi : Oper} {v : Value} (hi : ops[i]? = some oi) (hsel : ∀ (j : Nat) (o : Oper) cs b, ops[j]? = some o → o.op ≠ .select cs b)
    (hQ : ∀ c a w, Q (.panic c) (a.put oi.dst v) w → Q (.panic c) a w) (hreach : reachB md ops i n f = true) :
    ∀ (fuel : Nat) (listed : Array Bool) (a : Act) (w : World), Closed md ops listed →
      (∀ j oj, ops[j]? = some oj → j ≠ i → listed.getD j true = false → (∀ e ∈ oj.after, Region.binds md e = true → e.on ≠ i) → oi.apart ops oj = true) →
      i ∈ Region.ready md ops listed → YieldsIf P ops S oi v a → S w →
      wpAnyF P md ops Q S f fuel (listed.setIfInBounds i true) (a.put oi.dst v) w → wpAnyF P md ops Q S f (fuel + 1) listed a w := by
  intro fuel
  induction fuel with
  | zero =>
    intro listed a w _ _ hr hy hS H
    refine ⟨fun h => (by rw [h] at hr; cases hr), fun j hj => ?_⟩
    by_cases hji : j = i
    · subst hji; exact hy.wpOp hi hS ⟨.inr (.inr hS), H⟩
    · have := ready_mono hj hji
      rw [H.1] at this
      cases this
  | succ fuel ih =>
    intro listed a w hcl hfree hr hy hS H
    refine ⟨fun h => (by rw [h] at hr; cases hr), fun j hj => ?_⟩
    by_cases hji : j = i
    · subst hji; exact hy.wpOp hi hS ⟨.inr (.inr hS), H⟩
    · have h1 := H.2 j (ready_mono hj hji)
      obtain ⟨hjun, oj, hoj, hall⟩ := mem_ready.1 hj
      have hun : ¬ listed.getD i false = true := fun h1 => by
        have h0 := (mem_ready.1 hr).1
        rcases Nat.lt_or_ge i listed.size with h' | h'
        · simp [h'] at h0 h1; rw [h0] at h1; cases h1
        · simp [Array.getElem?_eq_none h'] at h1
      have hnot : ∀ e ∈ oj.after, Region.binds md e = true → e.on ≠ i := fun e he hb heq => hun (by rw [← heq]; exact hall e he hb)
      have hjf : j ≠ f := fun e => by
        subst e
        exact hun (reach_listed hcl n j oj hoj hall hreach)
      have hfl : ¬ (listed.setIfInBounds i true).getD f false = true := fun e => by
        by_cases hfi : i = f
        · subst hfi
          exact reach_self hreach hcl hr
        · rw [getD_set_ne false hfi] at e
          cases hof : ops[f]? with
          | none =>
            cases n with
            | zero => cases hreach
            | succ n => simp [reachB, hof] at hreach
          | some of => exact hun (reach_listed hcl n f of hof (fun e' he' hb' => hcl f of hof e e' he' hb') hreach)
      have h2 := wpOp_putIf hoj (hfree j oj hoj hji hjun hnot) (fun cs b => hsel i oi cs b hi) (fun cs b => hsel j oj cs b hoj) hQ hy h1
      have hfree' : ∀ k ok, ops[k]? = some ok → k ≠ i → (listed.setIfInBounds j true).getD k true = false →
          (∀ e ∈ ok.after, Region.binds md e = true → e.on ≠ i) → oi.apart ops ok = true := fun k ok hk hki hun hno => by
        refine hfree k ok hk hki ?_ hno
        by_cases hjk : j = k
        · subst hjk; exact hjun
        · rw [getD_set_ne true hjk] at hun; exact hun
      refine wpOp_mono (fun a' w' h3 => ⟨.inr (.inr ((h3.2.1.resolve_left hjf).resolve_left hfl)), ih (listed.setIfInBounds j true) a' w' (hcl.add hj) hfree' (ready_mono hr (Ne.symm hji)) h3.1 ((h3.2.1.resolve_left hjf).resolve_left hfl) ?_⟩) h2
      rw [Array.setIfInBounds_comm _ _ hji]
      exact h3.2.2

/-- An extract yields the same in whatever world. -/
def pureB : Op → Bool
  | .extract .. => true
  | _ => false
theorem pure_yields {P : Program} {ops : Array Oper} {S : World → Prop} {o : Oper} {v : Value} {a : Act} {w : World} (hp : pureB o.op = true) (hS : S w) (h : YieldsIf P ops S o v a) : YieldsIf P ops (fun _ => True) o v a := by
  rcases h with ⟨hw, h⟩ | h
  · refine .inl ⟨hw, fun w' _ => ?_⟩
    have h1 := h w hS
    cases hop : o.op <;> rw [hop] at hp <;> try cases hp
    unfold execOp at h1 ⊢
    simp only [hop] at h1 ⊢
    unfold Instr.extract at h1 ⊢
    split at h1
    · split at h1
      · simp only [Sem.run_bind, Sem.run_pure, Result.andThen_ok, Result.ok.injEq, and_true] at h1 ⊢
        exact h1
      · simp [stuck, go_sem] at h1
    · simp [stuck, go_sem] at h1
  · exact .inr h
theorem wpAnyF_pure {P : Program} {md : Region.Mode} {ops : Array Oper} {Q : Exit → Act → World → Prop} {S : World → Prop} {f i : Nat} {oi : Oper} {v : Value} (hi : ops[i]? = some oi) (hsel : ∀ (j : Nat) (o : Oper) cs b, ops[j]? = some o → o.op ≠ .select cs b)
    (hQ : ∀ c a w, Q (.panic c) (a.put oi.dst v) w → Q (.panic c) a w) (hif : i ≠ f) :
    ∀ (fuel : Nat) (listed : Array Bool) (a : Act) (w : World), Closed md ops listed →
      (∀ j oj, ops[j]? = some oj → j ≠ i → listed.getD j true = false → (∀ e ∈ oj.after, Region.binds md e = true → e.on ≠ i) → oi.apart ops oj = true) →
      i ∈ Region.ready md ops listed → YieldsIf P ops (fun _ => True) oi v a → (i = f ∨ listed.getD f false = true ∨ S w) →
      wpAnyF P md ops Q S f fuel (listed.setIfInBounds i true) (a.put oi.dst v) w → wpAnyF P md ops Q S f (fuel + 1) listed a w := by
  intro fuel
  induction fuel with
  | zero =>
    intro listed a w _ _ hr hy hS H
    refine ⟨fun h => (by rw [h] at hr; cases hr), fun j hj => ?_⟩
    by_cases hji : j = i
    · subst hji; exact hy.wpOp hi trivial ⟨hS, H⟩
    · have := ready_mono hj hji
      rw [H.1] at this
      cases this
  | succ fuel ih =>
    intro listed a w hcl hfree hr hy hS H
    refine ⟨fun h => (by rw [h] at hr; cases hr), fun j hj => ?_⟩
    by_cases hji : j = i
    · subst hji; exact hy.wpOp hi trivial ⟨hS, H⟩
    · have h1 := H.2 j (ready_mono hj hji)
      obtain ⟨hjun, oj, hoj, hall⟩ := mem_ready.1 hj
      have hun : ¬ listed.getD i false = true := fun h1 => by
        have h0 := (mem_ready.1 hr).1
        rcases Nat.lt_or_ge i listed.size with h' | h'
        · simp [h'] at h0 h1; rw [h0] at h1; cases h1
        · simp [Array.getElem?_eq_none h'] at h1
      have hnot : ∀ e ∈ oj.after, Region.binds md e = true → e.on ≠ i := fun e he hb heq => hun (by rw [← heq]; exact hall e he hb)
      have h2 := wpOp_putIf hoj (hfree j oj hoj hji hjun hnot) (fun cs b => hsel i oi cs b hi) (fun cs b => hsel j oj cs b hoj) hQ hy h1
      have hfree' : ∀ k ok, ops[k]? = some ok → k ≠ i → (listed.setIfInBounds j true).getD k true = false →
          (∀ e ∈ ok.after, Region.binds md e = true → e.on ≠ i) → oi.apart ops ok = true := fun k ok hk hki hun hno => by
        refine hfree k ok hk hki ?_ hno
        by_cases hjk : j = k
        · subst hjk; exact hjun
        · rw [getD_set_ne true hjk] at hun; exact hun
      have hset : (listed.setIfInBounds j true).getD j false = true := by
        rcases Nat.lt_or_ge j listed.size with h' | h'
        · simp [h']
        · simp [Array.getElem?_eq_none h'] at hjun
      refine wpOp_mono (fun a' w' h3 => ⟨?_, ih (listed.setIfInBounds j true) a' w' (hcl.add hj) hfree' (ready_mono hr (Ne.symm hji)) h3.1 ?_ ?_⟩) h2
      · rcases h3.2.1 with h | h | h
        · exact .inl h
        · rw [getD_set_ne false hif] at h
          exact .inr (.inl h)
        · exact .inr (.inr h)
      · rcases h3.2.1 with h | h | h
        · subst h
          exact .inr (.inl hset)
        · rw [getD_set_ne false hif] at h
          exact .inr (.inl (getD_set_true h))
        · exact .inr (.inr h)
      · rw [Array.setIfInBounds_comm _ _ hji]
        exact h3.2.2

theorem wpAnyF_take {P : Program} {md : Region.Mode} {ops : Array Oper} {Q : Exit → Act → World → Prop} {S : World → Prop} {f i n : Nat} {oi : Oper} {v : Value} {fuel : Nat} {listed : Array Bool} {a : Act} {w : World} (hi : ops[i]? = some oi) (hs : Region.noSelect ops = true)
    (hQ : ∀ c a w, Q (.panic c) (a.put oi.dst v) w → Q (.panic c) a w) (hp : (reachB md ops i n f || (i != f && (match ops[i]? with | some o => pureB o.op | none => false))) = true) (hc : Closed md ops listed) (hf : Region.free md ops listed i = true)
    (hr : i ∈ Region.ready md ops listed) (hy : YieldsIf P ops S oi v a) (hS : S w) (h : wpAnyF P md ops Q S f fuel (listed.setIfInBounds i true) (a.put oi.dst v) w) : wpAnyF P md ops Q S f (fuel + 1) listed a w := by
  rw [Bool.or_eq_true, Bool.and_eq_true, bne_iff_ne, hi] at hp
  rcases hp with hp | ⟨hne, hp⟩
  · exact wpAnyF_first hi (Region.noSelect_spec hs) hQ hp fuel listed a w hc (Region.free_spec hi hf) hr hy hS h
  · exact wpAnyF_pure hi (Region.noSelect_spec hs) hQ hne fuel listed a w hc (Region.free_spec hi hf) hr (pure_yields hp hS hy) (.inr (.inr hS)) h
/-- The order is one that serves, with f behind it. -/
def schedF (md : Region.Mode) (ops : Array Oper) (f : Nat) : List (Nat × Bool) → Array Bool → Bool
  | [], listed => (Region.ready md ops listed == [f]) && (Region.ready md ops (listed.setIfInBounds f true)).isEmpty
  | (i, false) :: r, listed => Region.free md ops listed i && ((Region.ready md ops listed).contains i && ((reachB md ops i ops.size f || (i != f && (match ops[i]? with | some o => pureB o.op | none => false))) && schedF md ops f r (listed.setIfInBounds i true)))
  | (i, true) :: r, listed => (Region.ready md ops listed == [i]) && (i != f && schedF md ops f r (listed.setIfInBounds i true))
theorem wpAnyF_of_lex {P : Program} {ops : Array Oper} {Q : Exit → Act → World → Prop} {S : World → Prop} {md : Region.Mode} {f : Nat} (hs : Region.noSelect ops = true)
    (hQ : ∀ c a d v w, Q (.panic c) (Act.put a d v) w → Q (.panic c) a w) :
    ∀ (l : List (Nat × Bool)) (listed : Array Bool) (a : Act) (w : World), schedF md ops f l listed = true → Closed md ops listed → S w → LexH P ops Q S (wpOp P ops Q f (Q .normal)) l a w → wpAnyF P md ops Q S f (l.length + 1) listed a w
  | [], listed, a, w, hb, _, _, h => by
    simp only [schedF, Bool.and_eq_true, beq_iff_eq, List.isEmpty_iff] at hb
    refine ⟨fun h0 => (by rw [h0] at hb; cases hb.1), fun i hi => ?_⟩
    rw [hb.1] at hi
    obtain rfl : i = f := by simpa using hi
    exact wpOp_mono (fun a' w' hh => ⟨.inl rfl, hb.2, hh⟩) h
  | (i, false) :: r, listed, a, w, hb, hc, hS, ⟨o, v, hi, hy, h⟩ => by
    simp only [schedF, Bool.and_eq_true] at hb
    have hr : i ∈ Region.ready md ops listed := by simpa using hb.2.1
    have hrest := wpAnyF_of_lex hs hQ r _ _ w hb.2.2.2 (hc.add hr) hS h
    exact wpAnyF_take hi hs (fun c a w => hQ c a o.dst v w) hb.2.2.1 hc hb.1 hr hy hS hrest
  | (i, true) :: r, listed, a, w, hb, hc, _, h => by
    simp only [schedF, Bool.and_eq_true, beq_iff_eq, bne_iff_ne] at hb
    refine ⟨fun h0 => (by rw [h0] at hb; cases hb.1), fun j hj => ?_⟩
    have hj' := hj
    rw [hb.1] at hj
    obtain rfl : j = i := by simpa using hj
    exact wpOp_mono (fun a' w' hh => ⟨.inr (.inr hh.1), wpAnyF_of_lex hs hQ r _ a' w' hb.2.2 (hc.add hj') hh.1 hh.2⟩) h

/-- A region whose last operation f may turn what was read: S need not hold behind it. -/
theorem wp_region_lexF {P : Program} {id : Nat} {l : List Oper} {Q : Exit → Act → World → Prop} {a : Act} {w : World} (S : World → Prop) (order : List (Nat × Bool)) (f : Nat) (hm : P.follows .mixedOrders = true)
    (hs : Region.noSelect l.toArray = true) (hn : order.length + 1 = l.toArray.size) (hb : schedF .any l.toArray f order (Array.replicate l.toArray.size false) = true)
    (hS : S w.drew) (h : ∀ W, W = w.drew → S W → LexH P l.toArray (NoPanic Q) S (wpOp P l.toArray (NoPanic Q) f (NoPanic Q .normal)) order a W) : (Code.region id l.toArray true).wp P Q a w :=
  wp_region_noPanic (wp_region_any hm (wpAny_of_F _ _ _ _ (hn ▸ wpAnyF_of_lex hs (fun _ _ _ _ _ h => h) order _ a _ hb (Closed.start _ _ _) hS (h _ rfl hS))))

section
variable {P : Program} {ops : Array Oper} {Q : Exit → Act → World → Prop} {S : World → Prop} {K : Act → World → Prop} {i : Nat} {r : List (Nat × Bool)} {a : Act} {w : World}
/-- An operation that yields. -/
theorem lexH_yield {o : Oper} {v : Value} (hi : ops[i]? = some o) (hw : Region.wanted o (yielded ops a.tmps) = true) (hv : ∀ W, S W → (execOp a.eval o).run P W = .ok (.value v) W) (h : LexH P ops Q S K r (a.put o.dst v) w) : LexH P ops Q S K ((i, false) :: r) a w :=
  ⟨o, v, hi, .inl ⟨hw, hv⟩, h⟩
theorem lexH_yieldE {o : Oper} (hi : ops[i]? = some o) (hw : Region.wanted o (yielded ops a.tmps) = true) (h : ∃ v, (∀ W, S W → (execOp a.eval o).run P W = .ok (.value v) W) ∧ LexH P ops Q S K r (a.put o.dst v) w) : LexH P ops Q S K ((i, false) :: r) a w :=
  let ⟨_, hv, h⟩ := h
  lexH_yield hi hw hv h
/-- A load. -/
theorem lexH_load {o : Oper} {v : Value} (hi : ops[i]? = some o) (hw : Region.wanted o (yielded ops a.tmps) = true) (ty : TypeId) (x : Operand) (ho : o.op = .load ty x) {p : Addr} (hx : a.eval x = .pointer (some p))
    (hv : ∀ W, S W → (loadVar ty p).run P W = .ok v W) (h : LexH P ops Q S K r (a.put o.dst v) w) : LexH P ops Q S K ((i, false) :: r) a w :=
  lexH_yield hi hw (fun W hW => by unfold execOp; simp only [ho, hx, Instr.loadAt, Instr.sureAddr, Sem.run_bind, Sem.run_pure, Result.andThen_ok, hv W hW]) h
/-- A conversion. -/
theorem lexH_conv {o : Oper} {v : Value} (hi : ops[i]? = some o) (hw : Region.wanted o (yielded ops a.tmps) = true) (src dst : TypeId) (x : Operand) (ho : o.op = .convert src dst x) {u : Value} (hx : a.eval x = u)
    (hv : ∀ W, S W → (convert src dst u).run P W = .ok v W) (h : LexH P ops Q S K r (a.put o.dst v) w) : LexH P ops Q S K ((i, false) :: r) a w :=
  lexH_yield hi hw (fun W hW => by unfold execOp; simp only [ho, hx, Sem.run_bind, Sem.run_pure, Result.andThen_ok, hv W hW]) h
/-- A step that is met as it is. -/
theorem lexH_eff {o : Oper} (hi : ops[i]? = some o) (hw : Region.wanted o (yielded ops a.tmps) = true)
    (h : o.wp P a w (fun a' w' => S w' ∧ LexH P ops Q S K r a' w') Q) : LexH P ops Q S K ((i, true) :: r) a w := by
  show wpOp P ops Q i _ a w
  unfold wpOp
  simp only [hi, hw, if_true]
  exact .inl h
/-- A conversion of what lies where it lies now. -/
theorem lexH_convT {o : Oper} {v : Value} (hi : ops[i]? = some o) (hw : Region.wanted o (yielded ops a.tmps) = true) (src dst : TypeId) (x : Operand) (ho : o.op = .convert src dst x) {u : Value} (hx : a.eval x = u)
    (hv : (convert src dst u).run P w = .ok v w) (hS : S w) (h : LexH P ops Q S K r (a.put o.dst v) w) : LexH P ops Q S K ((i, true) :: r) a w := by
  refine lexH_eff hi hw ?_
  unfold Oper.wp execOp
  simp only [ho, hx, Sem.run_bind, Sem.run_pure, Result.andThen_ok, hv]
  exact ⟨hS, h⟩
/-- One that is passed over. -/
theorem lexH_skip {o : Oper} (hi : ops[i]? = some o) (hw : Region.wanted o (yielded ops a.tmps) = false) (h : LexH P ops Q S K r (a.put o.dst undef) w) : LexH P ops Q S K ((i, false) :: r) a w :=
  ⟨o, undef, hi, .inr ⟨hw, rfl⟩, h⟩
theorem lexH_pass {o : Oper} (hi : ops[i]? = some o) (hw : Region.wanted o (yielded ops a.tmps) = false) (hS : S w) (h : LexH P ops Q S K r (a.put o.dst undef) w) : LexH P ops Q S K ((i, true) :: r) a w := by
  show wpOp P ops Q i _ a w
  unfold wpOp
  simp only [hi, hw, Bool.false_eq_true, if_false]
  exact ⟨hS, h⟩
/-- A call. -/
theorem lexH_call (f : FuncId) (args : Array Value) {o : Oper} (hi : ops[i]? = some o) (hw : Region.wanted o (yielded ops a.tmps) = true) (hr : (execOp a.eval o).run P w = .ok (.enter f args) w)
    (h : Calls P f args w fun e w' => ∃ v, e = .returned v ∧ S w' ∧ LexH P ops Q S K r (a.put o.dst v) w') : LexH P ops Q S K ((i, true) :: r) a w := by
  show wpOp P ops Q i _ a w
  unfold wpOp
  simp only [hi, hw, if_true]
  refine .inl ?_
  unfold Oper.wp
  rw [hr]
  simp only [Oper.upon]
  refine h.mono ?_
  rintro e w' ⟨v, rfl, h1, h2⟩
  exact ⟨h1, h2⟩
theorem lexH_nil {Q : Exit → Act → World → Prop} (h : Q .normal a w) : LexH P ops (NoPanic Q) S (NoPanic Q .normal) [] a w := NoPanic.normal h
/-- The region's last operation, where it may turn what was read. -/
theorem lexH_last {Q : Exit → Act → World → Prop} {f : Nat} {o : Oper} (hi : ops[f]? = some o) (hw : Region.wanted o (yielded ops a.tmps) = true) (h : o.wp P a w (fun a' w' => Q .normal a' w') (NoPanic Q)) :
    LexH P ops (NoPanic Q) S (wpOp P ops (NoPanic Q) f (NoPanic Q .normal)) [] a w := by
  show wpOp P ops (NoPanic Q) f _ a w
  unfold wpOp
  simp only [hi, hw, if_true]
  exact .inl (Oper.wp_mono (fun _ _ h => NoPanic.normal h) h)
end
end Go.Proofs.YtkmjkkeldbocdaaDoor
