/-
  BuddyPowers, BuddyBack: a node, and the list of what was taken from it.
-/
import Derived.Test.YtilcdnkjfbkpnaaBuCount
import Derived.Test.YtilcdnkjfbkpnaaBuLawMost
import Derived.Test.YtilcdnkjfbkpnaaBuInts
namespace Go.Proofs.Ytilcdnkjfbkpnaa
open Go.RowKit Go

section
variable {n : Nat} {L T : List (Int × Int)}
/-- What Take comes to. -/
theorem take_cases (I : Inv n L T) (order : Int) (high : Bool) :
    (∃ y M, takeS L T order high = (y, 0, M, T ++ [(y, order)]) ∧ (y, order) ∉ T ∧ 0 ≤ y ∧ y < 128 ∧ 0 ≤ order ∧ order ≤ 10) ∨ ∃ k, k ≠ 0 ∧ takeS L T order high = (0, k, L, T) := by
  by_cases ho : 0 ≤ order ∧ order ≤ 10
  · obtain ⟨od, rfl⟩ : ∃ od : Nat, order = od := ⟨order.toNat, by omega⟩
    rcases pick_or I od high with ⟨a, q, hp⟩ | hp
    · obtain ⟨y, _, h2, _, hyn, hnone, _⟩ := inv_take I (by omega) hp
      have := I.n2
      exact .inl ⟨y, _, h2, tkL_none.1 hnone _, by omega, by omega, by omega, by omega⟩
    · refine .inr ⟨6, by decide, ?_⟩
      unfold takeS
      rw [if_pos ho, pick_none hp, if_pos (by decide)]
  · refine .inr ⟨2, by decide, ?_⟩
    unfold takeS
    rw [if_neg ho]
theorem dropL_head {x : Int × Int} {r : List (Int × Int)} (h : (x :: r).Nodup) : dropL (x :: r) x = r := by
  unfold dropL
  rw [List.filter_cons_of_neg (by simp), List.filter_eq_self.2]
  intro p hp
  have : p ≠ x := fun e => (List.nodup_cons.1 h).1 (by rw [← e]; exact hp)
  simpa using this
end
section
variable {B d n bb : Nat} {mb : Nat → Nat} {tb : Nat} {L T M : List (Int × Int)} {v : Value} {w W W' : World}
theorem NodeAt.own_block (N : NodeAt W d n mb tb L T) {k : Nat} (h : own6 mb tb k) {A : Array Value} {t : TypeId} {f : Nat × Nat} (r : W.heap[k]? = some (.cells A t f)) : False := by
  have key : ∀ {α : Type} {R : Value → Option (MDat × List MemPlace)} {E : Elem R α} {b : Nat} {g : Int → Option α}, FMap Try.prog 3 E W b g → W.heap[b]? = some (.cells A t f) → False := fun hF hb => by
    obtain ⟨D, l, ⟨es, clock, hm, _⟩, _⟩ := hF
    rw [hm] at hb
    cases hb
  rcases h with rfl | ⟨o, ho, rfl⟩
  · exact key N.tkn r
  · exact key (N.free o ho) r
/-- Rows of the call's own stay while a node turns. -/
theorem owns_node {base c size : Nat} {t : TypeId} {xs : List Value} (N : NodeAt W d n mb tb L T) (h : W.ownsRow base t size v c xs) (ho : Only (own6 mb tb) W W') : W'.ownsRow base t size v c xs :=
  owns_only h ho fun k hk hs => by
    obtain ⟨_, ⟨rfl, _⟩ | ⟨g, cap, cur, rfl, _, hh, _⟩⟩ := h
    · simp [Value.ownBlock] at hk
    · simp [Value.ownBlock] at hk
      subst hk
      exact N.own_block hs hh
/-- A node, its box, a list of blocks. -/
structure PwAt (B d n : Nat) (mb : Nat → Nat) (tb bb : Nat) (L T M : List (Int × Int)) (v : Value) (w W : World) : Prop where
  st : StAt B d n mb tb L T w W
  box : RowAt W bb 1 (fun _ => .pointer (some ⟨d, 0, none⟩))
  nd : T.Nodup
  lst : W.ownsRow (bb + 1) 42 2 v M.length (recV encB M)
  db : d < bb
theorem PwAt.later (P : PwAt B d n mb tb bb L T M v w W) (h : Below W.heap.size W W') : PwAt B d n mb tb bb L T M v w W' :=
  ⟨P.st.later h, P.box.later h, P.nd, owns_later P.lst h, P.db⟩
theorem PwAt.turn (P : PwAt B d n mb tb bb L T M v w W) {L' T' : List (Int × Int)} (N : NodeAt W' d n mb tb L' T') (I : Inv n L' T') (ho : Only (own6 mb tb) W W') (hn : T'.Nodup) : PwAt B d n mb tb bb L' T' M v w W' :=
  ⟨P.st.turn N I ho, P.box.only ho (fun h => P.st.node.own_row h P.box), hn, owns_node P.st.node P.lst ho, P.db⟩
/-- The list is one longer. -/
theorem PwAt.more (P : PwAt B d n mb tb bb L T M v w W) {v' : Value} {x : Int × Int} (h : W'.ownsRow (bb + 1) 42 2 v' (M.length + 1) (recV encB M ++ (#[Value.int .i64 x.1, .int .i64 x.2] : Array Value).toList)) (ho : Only (fun k => v.ownBlock = some k) W W') :
    PwAt B d n mb tb bb L T (M ++ [x]) v' w W' := by
  have hS : ∀ k, v.ownBlock = some k → bb < k := fun k hk => (P.lst.lt k hk).1
  have hdb := P.db
  have hd1 := P.st.d1
  refine ⟨⟨P.st.node.only ho (fun h => by have := hS _ h; omega) (fun k hk hs => ?_), P.st.inv, ho.below P.st.bel P.st.le (fun k hk => by have := hS k hk; omega), P.st.own, P.st.d1, Nat.le_trans P.st.le ho.size⟩, P.box.only ho (fun h => by have := hS _ h; omega), P.nd, ?_, P.db⟩
  · obtain ⟨_, ⟨rfl, _⟩ | ⟨g, cap, cur, rfl, _, hh, _⟩⟩ := P.lst
    · simp [Value.ownBlock] at hs
    · simp [Value.ownBlock] at hs
      subst hs
      exact P.st.node.own_block hk hh
  · rw [List.length_append, recV_append, recV_single]
    exact h
/-- A block of the list. -/
theorem PwAt.at {la : Option Addr} {lc : Nat} (P : PwAt B d n mb tb bb L T M (.slice la M.length lc) w W) (j : Nat) (hj : j < M.length) : ∃ g, la = some ⟨g, 0, none⟩ ∧ W.cell? ⟨g, j * 2, none⟩ = some (.int .i64 M[j].1) ∧ W.cell? ⟨g, j * 2 + 1, none⟩ = some (.int .i64 M[j].2) := by
  obtain ⟨a, cap, e, hR⟩ := RecsAt.of_owns P.lst
  injection e with e1 _ _
  subst e1
  obtain ⟨g, rfl, _, _, hr⟩ := hR.get encB_len j hj
  exact ⟨g, rfl, hr 0 _ rfl, hr 1 _ rfl⟩
theorem drop_nodup {T : List (Int × Int)} (h : T.Nodup) (j : Nat) (hj : j < T.length) : T[j] ∈ T.drop j ∧ dropL (T.drop j) T[j] = T.drop (j + 1) := by
  rw [List.drop_eq_getElem_cons hj]
  refine ⟨List.mem_cons_self, dropL_head ?_⟩
  rw [← List.drop_eq_getElem_cons hj]
  exact h.sublist (List.drop_sublist _ _)
end
end Go.Proofs.Ytilcdnkjfbkpnaa
