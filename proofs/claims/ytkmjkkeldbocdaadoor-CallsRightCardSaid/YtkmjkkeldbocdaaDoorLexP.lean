/-
  A region that draws its order, walked by a plan: what only reads is taken first; where several may come up, each has a plan of its own; the last operation may turn what was read. Of no program.
-/
import Derived.Test.YtkmjkkeldbocdaaDoorLexH
namespace Go.Proofs.YtkmjkkeldbocdaaDoor
open Go.RowKit Go

/-- A plan: the end; i is taken; i comes up, and then .., or one of the others. -/
inductive Plan where
  | fin
  | take (i : Nat) (p : Plan)
  | step (i : Nat) (p : Plan) (alt : Plan)
/-- Those that a chain of steps begins with. -/
def Plan.heads : Plan → List Nat
  | .step i _ alt => i :: alt.heads
  | _ => []
/-- The walk by a plan. -/
def LexP (P : Program) (ops : Array Oper) (Q : Exit → Act → World → Prop) (S : World → Prop) (K : Act → World → Prop) : Plan → Act → World → Prop
  | .fin, a, w => K a w
  | .take i p, a, w => ∃ o v, ops[i]? = some o ∧ YieldsIf P ops S o v a ∧ LexP P ops Q S K p (a.put o.dst v) w
  | .step i p .fin, a, w => wpOp P ops Q i (fun a' w' => S w' ∧ LexP P ops Q S K p a' w') a w
  | .step i p alt, a, w => wpOp P ops Q i (fun a' w' => S w' ∧ LexP P ops Q S K p a' w') a w ∧ LexP P ops Q S K alt a w
/-- The plan is one that serves, with f behind it; n are left. -/
def schedP (md : Region.Mode) (ops : Array Oper) (f : Nat) : Bool → Plan → Nat → Array Bool → Bool
  | _, .fin, n, listed => n == 1 && ((Region.ready md ops listed == [f]) && (Region.ready md ops (listed.setIfInBounds f true)).isEmpty)
  | _, .take i p, n, listed => Nat.blt 0 n && (Region.free md ops listed i && ((Region.ready md ops listed).contains i && ((reachB md ops i ops.size f || (i != f && (match ops[i]? with | some o => pureB o.op | none => false))) && schedP md ops f true p (n - 1) (listed.setIfInBounds i true))))
  | first, .step i p alt, n, listed => (!first || Region.ready md ops listed == Plan.heads (.step i p alt)) && (Nat.blt 0 n && (i != f && (schedP md ops f true p (n - 1) (listed.setIfInBounds i true) && (match alt with
    | .fin => true
    | .take _ _ => false
    | .step j q r => schedP md ops f false (.step j q r) n listed))))

section
variable {P : Program} {ops : Array Oper} {Q : Exit → Act → World → Prop} {S : World → Prop} {K : Act → World → Prop} {md : Region.Mode} {f : Nat}
/-- One of a chain. -/
theorem lexP_alt {listed : Array Bool} {a : Act} {w : World} {n : Nat} : ∀ (p : Plan) (first : Bool), schedP md ops f first p n listed = true → (∃ i q r, p = .step i q r) → LexP P ops Q S K p a w →
    ∀ i ∈ p.heads, ∃ q, SizeOf.sizeOf q < SizeOf.sizeOf p ∧ 0 < n ∧ schedP md ops f true q (n - 1) (listed.setIfInBounds i true) = true ∧ wpOp P ops Q i (fun a' w' => S w' ∧ LexP P ops Q S K q a' w') a w
  | .fin, _, _, ⟨_, _, _, e⟩, _ => by cases e
  | .take _ _, _, _, ⟨_, _, _, e⟩, _ => by cases e
  | .step i p .fin, first, hb, _, h => fun j hj => by
    simp only [schedP, Bool.and_eq_true, bne_iff_ne, Nat.blt_eq] at hb
    obtain rfl : j = i := by simpa [Plan.heads] using hj
    exact ⟨p, by simp; omega, hb.2.1, hb.2.2.2.1, h⟩
  | .step i p (.take _ _), first, hb, _, h => by
    simp [schedP] at hb
  | .step i p (.step j q r), first, hb, _, h => fun k hk => by
    simp only [schedP, Bool.and_eq_true, bne_iff_ne, Nat.blt_eq] at hb
    have hk2 : k = i ∨ k ∈ (Plan.step j q r).heads := by simpa [Plan.heads] using hk
    rcases hk2 with rfl | hk2
    · exact ⟨p, by simp; omega, hb.2.1, hb.2.2.2.1, h.1⟩
    · have h3 : schedP md ops f false (.step j q r) n listed = true := hb.2.2.2.2
      obtain ⟨q', h1, h2⟩ := lexP_alt (.step j q r) false h3 ⟨_, _, _, rfl⟩ h.2 k hk2
      exact ⟨q', Nat.lt_trans h1 (by simp; omega), h2⟩
theorem schedP_heads {listed : Array Bool} {n i : Nat} {p r : Plan} (h : schedP md ops f true (.step i p r) n listed = true) : Region.ready md ops listed = (Plan.step i p r).heads := by
  unfold schedP at h
  simp only [Bool.and_eq_true, Bool.not_true, Bool.false_or, beq_iff_eq] at h
  exact h.1
theorem wpAnyF_of_plan (hs : Region.noSelect ops = true) (hQ : ∀ c a d v w, Q (.panic c) (Act.put a d v) w → Q (.panic c) a w) (p : Plan) (n : Nat) (listed : Array Bool) (a : Act) (w : World)
    (hb : schedP md ops f true p n listed = true) (hc : Closed md ops listed) (hS : S w) (h : LexP P ops Q S (wpOp P ops Q f (Q .normal)) p a w) : wpAnyF P md ops Q S f n listed a w := by
  match p, hb, h with
  | .fin, hb, h =>
    simp only [schedP, Bool.and_eq_true, beq_iff_eq, List.isEmpty_iff] at hb
    obtain ⟨rfl, hb1, hb2⟩ := hb
    refine ⟨fun h0 => (by rw [h0] at hb1; cases hb1), fun i hi => ?_⟩
    rw [hb1] at hi
    obtain rfl : i = f := by simpa using hi
    exact wpOp_mono (fun a' w' hh => ⟨.inl rfl, hb2, hh⟩) h
  | .take i q, hb, ⟨o, v, hi, hy, h⟩ =>
    simp only [schedP, Bool.and_eq_true, Nat.blt_eq] at hb
    obtain ⟨m, rfl⟩ : ∃ m, n = m + 1 := ⟨n - 1, by omega⟩
    have hr : i ∈ Region.ready md ops listed := by simpa using hb.2.2.1
    have hb3 := hb.2.2.2.2
    rw [Nat.add_sub_cancel] at hb3
    exact wpAnyF_take hi hs (fun c a w => hQ c a o.dst v w) hb.2.2.2.1 hc hb.2.1 hr hy hS (wpAnyF_of_plan hs hQ q m _ _ w hb3 (hc.add hr) hS h)
  | .step i q r, hb, h =>
    have hready := schedP_heads hb
    have hall := lexP_alt (.step i q r) true hb ⟨_, _, _, rfl⟩ h
    have hn : 0 < n := by
      obtain ⟨_, _, h0, _⟩ := hall i (by cases r <;> simp [Plan.heads])
      exact h0
    obtain ⟨m, rfl⟩ : ∃ m, n = m + 1 := ⟨n - 1, by omega⟩
    refine ⟨fun h0 => (by rw [hready] at h0; cases r <;> simp [Plan.heads] at h0), fun j hj => ?_⟩
    have hj2 := hj
    rw [hready] at hj2
    obtain ⟨q', hlt, _, hb', hw⟩ := hall j hj2
    rw [Nat.add_sub_cancel] at hb'
    exact wpOp_mono (fun a' w' hh => ⟨.inr (.inr hh.1), wpAnyF_of_plan hs hQ q' m _ a' w' hb' (hc.add hj) hh.1 hh.2⟩) hw
termination_by SizeOf.sizeOf p
decreasing_by
  all_goals simp_wf
  all_goals (try simp at hlt)
  all_goals omega

/-- A region walked by a plan; S need not hold behind its last operation f. -/
theorem wp_region_plan {id : Nat} {l : List Oper} {Q : Exit → Act → World → Prop} {a : Act} {w : World} (S : World → Prop) (p : Plan) (f : Nat) (hm : P.follows .mixedOrders = true)
    (hs : Region.noSelect l.toArray = true) (hb : schedP .any l.toArray f true p l.toArray.size (Array.replicate l.toArray.size false) = true)
    (hS : S w.drew) (h : ∀ W, W = w.drew → S W → LexP P l.toArray (NoPanic Q) S (wpOp P l.toArray (NoPanic Q) f (NoPanic Q .normal)) p a W) : (Code.region id l.toArray true).wp P Q a w :=
  wp_region_noPanic (wp_region_any hm (wpAny_of_F _ _ _ _ (wpAnyF_of_plan hs (fun _ _ _ _ _ h => h) p _ _ a _ hb (Closed.start _ _ _) hS (h _ rfl hS))))

variable {i : Nat} {p r : Plan} {a : Act} {w : World}
theorem lexP_yield {o : Oper} {v : Value} (hi : ops[i]? = some o) (hw : Region.wanted o (yielded ops a.tmps) = true) (hv : ∀ W, S W → (execOp a.eval o).run P W = .ok (.value v) W) (h : LexP P ops Q S K p (a.put o.dst v) w) : LexP P ops Q S K (.take i p) a w :=
  ⟨o, v, hi, .inl ⟨hw, hv⟩, h⟩
theorem lexP_yieldE {o : Oper} (hi : ops[i]? = some o) (hw : Region.wanted o (yielded ops a.tmps) = true) (h : ∃ v, (∀ W, S W → (execOp a.eval o).run P W = .ok (.value v) W) ∧ LexP P ops Q S K p (a.put o.dst v) w) : LexP P ops Q S K (.take i p) a w :=
  let ⟨_, hv, h⟩ := h
  lexP_yield hi hw hv h
theorem lexP_load {o : Oper} {v : Value} (hi : ops[i]? = some o) (hw : Region.wanted o (yielded ops a.tmps) = true) (ty : TypeId) (x : Operand) (ho : o.op = .load ty x) {q : Addr} (hx : a.eval x = .pointer (some q))
    (hv : ∀ W, S W → (loadVar ty q).run P W = .ok v W) (h : LexP P ops Q S K p (a.put o.dst v) w) : LexP P ops Q S K (.take i p) a w :=
  lexP_yield hi hw (fun W hW => by unfold execOp; simp only [ho, hx, Instr.loadAt, Instr.sureAddr, Sem.run_bind, Sem.run_pure, Result.andThen_ok, hv W hW]) h
/-- The only one that may come up, or the last of a chain. -/
theorem lexP_step {o : Oper} (hi : ops[i]? = some o) (hw : Region.wanted o (yielded ops a.tmps) = true) (h : o.wp P a w (fun a' w' => S w' ∧ LexP P ops Q S K p a' w') Q) : LexP P ops Q S K (.step i p .fin) a w := by
  show wpOp P ops Q i _ a w
  unfold wpOp
  simp only [hi, hw, if_true]
  exact .inl h
/-- One of several. -/
theorem lexP_or {o : Oper} {j : Nat} {q r : Plan} (hi : ops[i]? = some o) (hw : Region.wanted o (yielded ops a.tmps) = true) (h : o.wp P a w (fun a' w' => S w' ∧ LexP P ops Q S K p a' w') Q) (hr : LexP P ops Q S K (.step j q r) a w) : LexP P ops Q S K (.step i p (.step j q r)) a w := by
  refine ⟨?_, hr⟩
  unfold wpOp
  simp only [hi, hw, if_true]
  exact .inl h
/-- What is left to do behind a step is what is left to do: for the arms of LexH. -/
theorem lexP_last {Q : Exit → Act → World → Prop} {o : Oper} (hi : ops[f]? = some o) (hw : Region.wanted o (yielded ops a.tmps) = true) (h : o.wp P a w (fun a' w' => Q .normal a' w') (NoPanic Q)) :
    LexP P ops (NoPanic Q) S (wpOp P ops (NoPanic Q) f (NoPanic Q .normal)) .fin a w := by
  show wpOp P ops (NoPanic Q) f _ a w
  unfold wpOp
  simp only [hi, hw, if_true]
  exact .inl (Oper.wp_mono (fun _ _ h => NoPanic.normal h) h)
end
end Go.Proofs.YtkmjkkeldbocdaaDoor
