/-
  A region that draws its order, walked in one given order (XLexH), inside a round. Of no program.
-/
import Derived.Test.YtndddfkebbeemaaLexH
import Derived.OrdersIn
import Derived.ControlIn
import Derived.OwnWalkIn
namespace Go.Proofs.Ytndddfkebbeemaa
open Go.RowKit Go

def noDefer (ops : Array Oper) : Bool := ops.all fun o => match o.op with
  | .defer _ => false
  | _ => true
theorem noDefer_at {ops : Array Oper} (h : noDefer ops = true) {i : Nat} {o : Oper} (hi : ops[i]? = some o) : ∀ c, o.op ≠ .defer c := by
  intro c hc
  obtain ⟨hlt, rfl⟩ := Array.getElem?_eq_some_iff.1 hi
  have h2 := Array.all_eq_true.1 h i hlt
  rw [hc] at h2
  cases h2
/-- No panic, and nothing outgrown. -/
def NoEnd (Q : Exit → Act → World → Prop) : Exit → Act → World → Prop
  | .panic _, _, _ => False
  | .outgrown, _, _ => False
  | e, a, w => Q e a w
theorem NoEnd.imp {Q : Exit → Act → World → Prop} : ∀ (e : Exit) (a : Act) (w : World), NoEnd Q e a w → Q e a w := fun e a w h => by
  cases e <;> first | exact h | exact (h : False).elim
section
variable {P : Program} {ops : Array Oper} {Q : Exit → Act → World → Prop} {l n : Nat}
theorem rowsIn_of {m : Nat} {row : String} {args : Array Value} {w : World} {R : Value → World → Prop} (h : Rows P row args w R) : RowsIn (Fence.wide.inRound l) m P row args w R := fun c cs _ =>
  let ⟨v, w2, r, s⟩ := h c cs
  ⟨v, w2, r, stepsIn_wide.2 s⟩
theorem operIn_of {o : Oper} {a : Act} {w : World} {K : Act → World → Prop} (hd : ∀ c, o.op ≠ .defer c) (h : o.wp P a w K Q) : o.wpIn (Fence.wide.inRound l) n P a w K Q := by
  refine ⟨fun _ _ => trivial, ?_⟩
  rw [Oper.semAt_plain _ _ _ hd]
  unfold Oper.wp at h
  generalize (execOp a.eval o).run P w = r at *
  cases r with
  | ok x w' =>
    cases x <;> simp only [Oper.upon, Oper.uponIn] at h ⊢ <;> first
      | exact h
      | exact ⟨fun h2 => (Bool.noConfusion h2), (callsIn_wide (n := n - 1)).2 h⟩
      | exact ⟨fun h2 => (Bool.noConfusion h2), rowsIn_of h⟩
      | exact h.elim
  | halt x w' => cases x <;> simp only [Oper.upon, Oper.uponIn] at h ⊢ <;> first | exact h | exact h.elim
theorem wpOpIn_of {i : Nat} {a : Act} {w : World} {K K' : Act → World → Prop} (hd : noDefer ops = true) (hk : ∀ a w, K a w → K' a w) (h : wpOp P ops (NoEnd Q) i K a w) : wpOpIn (Fence.wide.inRound l) n P ops (NoEnd Q) i K' a w := by
  unfold wpOpIn
  unfold wpOp at h
  split
  · rename_i ho
    rw [ho] at h
    exact hk _ _ h
  · rename_i o ho
    rw [ho] at h
    dsimp only at h
    split
    · rename_i hw
      rw [if_pos hw] at h
      rcases h with h | ⟨_, h⟩
      · exact operIn_of (noDefer_at hd ho) (Oper.wp_mono hk h)
      · obtain ⟨_, _, h⟩ := h
        exact h.elim
    · rename_i hw
      rw [if_neg hw] at h
      exact ⟨fun _ _ => trivial, hk _ _ h⟩
theorem wpAnyIn_of {md : Region.Mode} (hd : noDefer ops = true) : ∀ (fuel : Nat) (listed : Array Bool) (a : Act) (w : World), wpAny P md ops (NoEnd Q) fuel listed a w → wpAnyIn (Fence.wide.inRound l) n P md ops (NoEnd Q) fuel listed a w
  | 0, _, _, _, h => h
  | fuel + 1, _, _, _, h => ⟨h.1, fun i hi => wpOpIn_of hd (fun a' w' h' => wpAnyIn_of hd fuel _ a' w' h') (h.2 i hi)⟩
theorem wpIn_region_lex1 {id : Nat} {l' : List Oper} {a : Act} {w : World} (S : World → Prop) (order : List (Nat × Bool)) (hm : P.follows .mixedOrders = true)
    (hs : Region.noSelect l'.toArray = true) (hd : noDefer l'.toArray = true) (hn : order.length = l'.toArray.size) (hb : schedB .any l'.toArray order (Array.replicate l'.toArray.size false) = true)
    (hS : S w.drew) (h : ∀ W, W = w.drew → S W → LexH P l'.toArray (NoEnd Q) S (Q .normal) order a W) : (Code.region id l'.toArray true).wpIn (Fence.wide.inRound l) n P Q a w :=
  wpIn_mono (wpIn_region_any hm (wpAnyIn_of hd _ _ _ _ (wpAny_of_held _ _ _ _ (hn ▸ wpAnyH_of_lex hs (fun _ _ _ _ _ h => h) order _ a _ hb hS (h _ rfl hS))))) NoEnd.imp
theorem wpIn_region_lexF {id : Nat} {l' : List Oper} {a : Act} {w : World} (S : World → Prop) (order : List (Nat × Bool)) (f : Nat) (hm : P.follows .mixedOrders = true)
    (hs : Region.noSelect l'.toArray = true) (hd : noDefer l'.toArray = true) (hn : order.length + 1 = l'.toArray.size) (hb : schedF .any l'.toArray f order (Array.replicate l'.toArray.size false) = true)
    (hS : S w.drew) (h : ∀ W, W = w.drew → S W → LexH P l'.toArray (NoEnd Q) S (wpOp P l'.toArray (NoEnd Q) f (Q .normal)) order a W) : (Code.region id l'.toArray true).wpIn (Fence.wide.inRound l) n P Q a w :=
  wpIn_mono (wpIn_region_any hm (wpAnyIn_of hd _ _ _ _ (wpAny_of_F _ _ _ _ (hn ▸ wpAnyF_of_lex hs (fun _ _ _ _ _ h => h) order _ a _ hb (Closed.start _ _ _) hS (h _ rfl hS))))) NoEnd.imp
theorem lexI_nil {S : World → Prop} {Q' : Exit → Act → World → Prop} {a : Act} {w : World} (h : Q .normal a w) : LexH P ops Q' S (Q .normal) [] a w := h
theorem lexI_last {S : World → Prop} {a : Act} {w : World} {f : Nat} {o : Oper} (hi : ops[f]? = some o) (hw : Region.wanted o (yielded ops a.tmps) = true) (h : o.wp P a w (fun a' w' => Q .normal a' w') (NoEnd Q)) :
    LexH P ops (NoEnd Q) S (wpOp P ops (NoEnd Q) f (Q .normal)) [] a w := by
  show wpOp P ops (NoEnd Q) f _ a w
  unfold wpOp
  simp only [hi, hw, if_true]
  exact .inl h
end
end Go.Proofs.Ytndddfkebbeemaa
