/-
  BuddyBack: two nodes, and the list of what was taken from the first.
-/
import Derived.Test.YtilcdnkjfbkpnaaBuGrow
import Derived.Test.YtilcdnkjfbkpnaaLexApp
namespace Go.Proofs.Ytilcdnkjfbkpnaa
open Go.RowKit Go

theorem drop_at {T : List (Int × Int)} (h : T.Nodup) (j : Nat) (hj : j < T.length) : T[j] ∈ T ∧ dropL T T[j] = T.take j ++ T.drop (j + 1) ∧ T[j] ∉ T.take j ++ T.drop (j + 1) := by
  have e : T = T.take j ++ T[j] :: T.drop (j + 1) := by rw [← List.drop_eq_getElem_cons hj, List.take_append_drop]
  generalize T[j] = x at *
  generalize T.take j = A at *
  generalize T.drop (j + 1) = C at *
  subst e
  rw [List.nodup_append, List.nodup_cons] at h
  obtain ⟨_, ⟨n2, _⟩, n4⟩ := h
  have hA : x ∉ A := fun h => n4 _ h _ List.mem_cons_self rfl
  have hx : x ∉ A ++ C := fun h => (List.mem_append.1 h).elim hA n2
  refine ⟨List.mem_append_right _ List.mem_cons_self, ?_, hx⟩
  unfold dropL
  rw [List.filter_append, List.filter_cons_of_neg (by simp), ← List.filter_append, List.filter_eq_self.2]
  intro p hp
  have : p ≠ x := fun e => hx (by rw [← e]; exact hp)
  simpa using this
theorem give_not {L T : List (Int × Int)} {x o : Int} (h : (x, o) ∉ T) : giveS L T x o = (2, L, T) := by
  unfold giveS
  rw [if_neg (by simpa using h)]
theorem u64_mod (x n : Int) (h1 : 1 ≤ n) (h2 : n ≤ 1024) : ∃ k : Nat, (k : Int) < n ∧ wrap64 ((IntKind.u64.wrap x).tmod n) = k := by
  have h0 : 0 ≤ IntKind.u64.wrap x := by rw [IntKind.wrap_u64]; omega
  have e1 : (IntKind.u64.wrap x).tmod n = (IntKind.u64.wrap x) % n := Int.tmod_eq_emod_of_nonneg h0
  have l1 := Int.emod_lt_of_pos (IntKind.u64.wrap x) (show 0 < n by omega)
  have l2 := Int.emod_nonneg (IntKind.u64.wrap x) (show n ≠ 0 by omega)
  refine ⟨((IntKind.u64.wrap x) % n).toNat, by omega, ?_⟩
  rw [e1, IntWalk.wrap64_in _ ⟨by omega, by omega⟩]; omega
theorem sizeBlk (w : World) : (sizeOf 42).run Try.prog w = .ok 2 w := by kernel_rfl
theorem freeT_new (n : Nat) (h : n ≤ 128) : freeT (newL n) = n := by
  have h2 : ((List.range 129).all fun n => freeT (newL n) == n) = true := by decide +kernel
  exact eq_of_beq (List.all_eq_true.1 h2 n (List.mem_range.2 (by omega)))
section
variable {B d n B2 d2 B3 : Nat} {mb mb2 : Nat → Nat} {tb tb2 : Nat} {L T M : List (Int × Int)} {v : Value} {w W W' : World}
/-- Two nodes, and a list of blocks. -/
structure BkAt (B d n : Nat) (mb : Nat → Nat) (tb B2 d2 : Nat) (mb2 : Nat → Nat) (tb2 B3 : Nat) (L T M : List (Int × Int)) (v : Value) (w W : World) : Prop where
  st : StAt B d n mb tb L T w W
  two : NodeAt W d2 n mb2 tb2 (newL n) []
  one : ∀ k, own6 mb tb k ∨ k = d → k < B2
  up : ∀ k, own6 mb2 tb2 k ∨ k = d2 → B2 ≤ k ∧ k < B3
  nd : T.Nodup
  lst : W.ownsRow B3 42 2 v M.length (recV encB M)
  b1 : B ≤ B2
  b2 : B2 ≤ B3
  b3 : B3 ≤ W.heap.size
theorem BkAt.later (P : BkAt B d n mb tb B2 d2 mb2 tb2 B3 L T M v w W) (h : Below W.heap.size W W') : BkAt B d n mb tb B2 d2 mb2 tb2 B3 L T M v w W' :=
  ⟨P.st.later h, P.two.later h, P.one, P.up, P.nd, owns_later P.lst h, P.b1, P.b2, Nat.le_trans P.b3 h.size⟩
theorem BkAt.turn (P : BkAt B d n mb tb B2 d2 mb2 tb2 B3 L T M v w W) {L' T' : List (Int × Int)} (N : NodeAt W' d n mb tb L' T') (I : Inv n L' T') (ho : Only (own6 mb tb) W W') (hn : T'.Nodup) : BkAt B d n mb tb B2 d2 mb2 tb2 B3 L' T' M v w W' :=
  ⟨P.st.turn N I ho, P.two.only ho (fun h => by have := P.one _ (.inl h); have := P.up _ (.inr rfl); omega) (fun k hk h => by have := P.one _ (.inl h); have := P.up _ (.inl hk); omega), P.one, P.up, hn, owns_node P.st.node P.lst ho, P.b1, P.b2, Nat.le_trans P.b3 ho.size⟩
/-- The list is one longer. -/
theorem BkAt.more (P : BkAt B d n mb tb B2 d2 mb2 tb2 B3 L T M v w W) {v' : Value} {x : Int × Int} (h : W'.ownsRow B3 42 2 v' (M.length + 1) (recV encB M ++ (#[Value.int .i64 x.1, .int .i64 x.2] : Array Value).toList)) (ho : Only (fun k => v.ownBlock = some k) W W') :
    BkAt B d n mb tb B2 d2 mb2 tb2 B3 L T (M ++ [x]) v' w W' := by
  have hS : ∀ k, v.ownBlock = some k → B3 ≤ k := fun k hk => (P.lst.lt k hk).1
  have h1 := P.b1
  have h2 := P.b2
  refine ⟨⟨P.st.node.only ho (fun h => ?_) (fun k hk hs => ?_), P.st.inv, ho.below P.st.bel P.st.le (fun k hk => by have := hS k hk; omega), P.st.own, P.st.d1, Nat.le_trans P.st.le ho.size⟩,
    P.two.only ho (fun h => ?_) (fun k hk hs => ?_), P.one, P.up, P.nd, ?_, P.b1, P.b2, Nat.le_trans P.b3 ho.size⟩
  · have := hS _ h; have := P.one _ (.inr rfl); omega
  · have := hS _ hs; have := P.one _ (.inl hk); omega
  · have := hS _ h; have := P.up _ (.inr rfl); omega
  · have := hS _ hs; have := P.up _ (.inl hk); omega
  · rw [List.length_append, recV_append, recV_single]
    exact h
/-- The list is laid anew. -/
theorem BkAt.anew (P : BkAt B d n mb tb B2 d2 mb2 tb2 B3 L T M v w W) {U : List (Int × Int)} {v' : Value} (h : W'.ownsRow W.heap.size 42 2 v' U.length (recV encB U)) (hb : Below W.heap.size W W') : BkAt B d n mb tb B2 d2 mb2 tb2 B3 L T U v' w W' :=
  ⟨P.st.later hb, P.two.later hb, P.one, P.up, P.nd, owns_base h (fun k hk => Nat.le_trans P.b3 (h.lt k hk).1), P.b1, P.b2, Nat.le_trans P.b3 hb.size⟩
/-- A block of the list. -/
theorem BkAt.at {la : Option Addr} {lc : Nat} (P : BkAt B d n mb tb B2 d2 mb2 tb2 B3 L T M (.slice la M.length lc) w W) (j : Nat) (hj : j < M.length) : ∃ g, la = some ⟨g, 0, none⟩ ∧ W.cell? ⟨g, j * 2, none⟩ = some (.int .i64 M[j].1) ∧ W.cell? ⟨g, j * 2 + 1, none⟩ = some (.int .i64 M[j].2) := by
  obtain ⟨a, cap, e, hR⟩ := RecsAt.of_owns P.lst
  injection e with e1 _ _
  subst e1
  obtain ⟨g, rfl, _, _, hr⟩ := hR.get encB_len j hj
  exact ⟨g, rfl, hr 0 _ rfl, hr 1 _ rfl⟩
/-- Its cells, and how long it may be. -/
theorem BkAt.part {la : Option Addr} {lc : Nat} (P : BkAt B d n mb tb B2 d2 mb2 tb2 B3 L T M (.slice la M.length lc) w W) (hk : 0 < M.length) : ∃ g, la = some ⟨g, 0, none⟩ ∧ M.length ≤ lc ∧ ∀ j u, (recV encB M)[j]? = some u → W.cell? ⟨g, j, none⟩ = some u := by
  obtain ⟨hl, ⟨_, h0⟩ | ⟨g, cap, cur, e, _, hh, hnc, _, _, ht⟩⟩ := P.lst
  · omega
  · injection e with e1 _ e3
    subst e1; subst e3
    refine ⟨g, rfl, hnc, fun j u hj => ?_⟩
    have hlt := (List.getElem?_eq_some_iff.1 hj).1
    rw [hl] at hlt
    rw [cell_of_row _ _ _ _ _ _ hh, ← hj, ← ht, List.getElem?_take_of_lt hlt]
    simp
/-- A list of blocks that lies under a box. -/
theorem own_at {base : Nat} {v : Value} (P : W.ownsRow base 42 2 v M.length (recV encB M)) (j : Nat) (hj : j < M.length) : ∃ g cap, v = .slice (some ⟨g, 0, none⟩) M.length cap ∧ W.cell? ⟨g, j * 2, none⟩ = some (.int .i64 M[j].1) ∧ W.cell? ⟨g, j * 2 + 1, none⟩ = some (.int .i64 M[j].2) := by
  obtain ⟨a, cap, rfl, hR⟩ := RecsAt.of_owns P
  obtain ⟨g, rfl, _, _, hr⟩ := hR.get encB_len j hj
  exact ⟨g, cap, rfl, hr 0 _ rfl, hr 1 _ rfl⟩
theorem own_slice {base : Nat} {v : Value} (P : W.ownsRow base 42 2 v M.length (recV encB M)) : ∃ a cap, v = .slice a M.length cap := by
  obtain ⟨a, cap, rfl, _⟩ := RecsAt.of_owns P
  exact ⟨a, cap, rfl⟩
/-- What Take says of a node in the midst of the law. -/
def TookSt (B d n : Nat) (mb : Nat → Nat) (tb B2 d2 : Nat) (mb2 : Nat → Nat) (tb2 B3 : Nat) (L T M : List (Int × Int)) (v : Value) (w : World) (y : Int) (e : Ending) (W' : World) : Prop :=
  (∃ u K, e = .returned (.tuple #[.int .i64 u, .int .i64 0]) ∧ BkAt B d n mb tb B2 d2 mb2 tb2 B3 K (T ++ [(u, y)]) M v w W') ∨ (∃ q, (q == 0) = false ∧ e = .returned (.tuple #[.int .i64 0, .int .i64 q]) ∧ BkAt B d n mb tb B2 d2 mb2 tb2 B3 L T M v w W')
theorem BkAt.take (P : BkAt B d n mb tb B2 d2 mb2 tb2 B3 L T M v w W) (y : Int) (hg : Bool) :
    Calls Try.prog 13 #[.pointer (some ⟨d, 0, none⟩), .int .i64 y, .bool hg] W (TookSt B d n mb tb B2 d2 mb2 tb2 B3 L T M v w y) := by
  refine (take6_any P.st.node P.st.inv y hg).mono ?_
  rintro e w4 ⟨rfl, hN, ho⟩
  have hI := P.st.inv.take y hg
  rcases take_cases P.st.inv y hg with ⟨u, K, e1, hnot, hu⟩ | ⟨q, hq, e1⟩
  · rw [e1] at hN hI ⊢
    exact .inl ⟨u, K, rfl, P.turn hN hI ho (by
      rw [List.nodup_append]
      exact ⟨P.nd, List.nodup_cons.2 ⟨List.not_mem_nil, List.nodup_nil⟩, fun p hp q hq e => by
        rw [List.mem_singleton] at hq
        subst e; subst hq
        exact hnot hp⟩)⟩
  · rw [e1] at hN hI ⊢
    exact .inr ⟨q, by simpa using hq, rfl, P.turn hN hI ho P.nd⟩
/-- What Give says of what lies in the list. -/
theorem BkAt.give (P : BkAt B d n mb tb B2 d2 mb2 tb2 B3 L T M v w W) (j : Nat) (hj : j < T.length) {x o : Int} (he : T[j] = (x, o)) :
    Calls Try.prog 15 #[.pointer (some ⟨d, 0, none⟩), .int .i64 x, .int .i64 o] W fun e W' => e = .returned (.int .i64 0) ∧ (x, o) ∉ T.take j ++ T.drop (j + 1) ∧ ∃ K, BkAt B d n mb tb B2 d2 mb2 tb2 B3 K (T.take j ++ T.drop (j + 1)) M v w W' := by
  obtain ⟨hin, hdr, hno⟩ := drop_at P.nd j hj
  rw [he] at hin hdr hno
  obtain ⟨xa, xo, ex⟩ := P.st.inv.natT _ hin
  rw [Prod.mk.injEq] at ex
  obtain ⟨rfl, rfl⟩ := ex
  obtain ⟨J, hxo, hxa, e1⟩ := P.st.inv.give hin
  have := P.st.inv.n2
  refine (give6_any P.st.node P.st.inv xa xo (by omega)).mono ?_
  rintro e w4 ⟨rfl, hN, ho⟩
  rw [e1] at hN ⊢
  rw [hdr] at hN J
  exact ⟨rfl, hno, _, P.turn hN J ho (by rw [← hdr]; exact P.nd.sublist List.filter_sublist)⟩
/-- What Give says of what does not lie in it. -/
theorem BkAt.giveNo (P : BkAt B d n mb tb B2 d2 mb2 tb2 B3 L T M v w W) {x o : Int} (hx : -9223372036854775808 ≤ x ∧ x ≤ 9223372036854775807) (h : (x, o) ∉ T) :
    Calls Try.prog 15 #[.pointer (some ⟨d, 0, none⟩), .int .i64 x, .int .i64 o] W fun e W' => e = .returned (.int .i64 2) ∧ BkAt B d n mb tb B2 d2 mb2 tb2 B3 L T M v w W' := by
  refine (give6_any P.st.node P.st.inv x o hx).mono ?_
  rintro e w4 ⟨rfl, hN, ho⟩
  rw [give_not h] at hN ⊢
  exact ⟨rfl, P.turn hN P.st.inv ho P.nd⟩
theorem BkAt.bound (P : BkAt B d n mb tb B2 d2 mb2 tb2 B3 L T M v w W) {p : Int × Int} (h : p ∈ T) : -9223372036854775808 ≤ p.1 ∧ p.1 ≤ 9223372036854775807 := by
  obtain ⟨xa, xo, rfl⟩ := P.st.inv.natT _ h
  have h3 := (P.st.inv.stk.al xo xa (.inr h)).2.2
  have hpw := Nat.one_le_two_pow (n := xo)
  have := P.st.inv.n2
  exact ⟨by show _ ≤ (xa : Int); omega, by show (xa : Int) ≤ _; omega⟩
end
end Go.Proofs.Ytilcdnkjfbkpnaa
