/-
  BuddyPlays: the program's node and the document's, side by side.
-/
import Derived.Test.YtilcdnkjfbkpnaaBuSame
import Derived.Test.YtilcdnkjfbkpnaaBuOps
namespace Go.Proofs.Ytilcdnkjfbkpnaa
open Go.RowKit Go

section
variable {n : Nat} {L T : List (Int × Int)}
theorem Inv.good (I : Inv n L T) : GoodL L := fun p hp => by
  obtain ⟨a, o, rfl⟩ := I.nat p hp
  obtain ⟨h1, _, h3⟩ := I.stk.al o a (.inl hp)
  have := I.n2
  exact ⟨by show (0 : Int) ≤ (a : Int); omega, by show (a : Int) + ((2 ^ ((o : Int).toNat) : Nat) : Int) ≤ 4000; rw [Int.toNat_natCast]; omega, by show (0 : Int) ≤ (o : Int); omega, by show (o : Int) ≤ 10; omega⟩
theorem Inv.goodT (I : Inv n L T) : GoodL T := fun p hp => by
  obtain ⟨a, o, rfl⟩ := I.natT p hp
  obtain ⟨h1, _, h3⟩ := I.stk.al o a (.inr hp)
  have := I.n2
  exact ⟨by show (0 : Int) ≤ (a : Int); omega, by show (a : Int) + ((2 ^ ((o : Int).toNat) : Nat) : Int) ≤ 4000; rw [Int.toNat_natCast]; omega, by show (0 : Int) ≤ (o : Int); omega, by show (o : Int) ≤ 10; omega⟩
theorem takeS_len (I : Inv n L T) (order : Int) (high : Bool) : (takeS L T order high).2.2.2.length ≤ T.length + 1 := by
  rcases take_cases I order high with ⟨u, M, e, _⟩ | ⟨q, _, e⟩ <;> rw [e] <;> simp
theorem giveS_len (L T : List (Int × Int)) (x o : Int) : (giveS L T x o).2.2.length ≤ T.length := by
  unfold giveS
  split
  · exact List.length_filter_le _ _
  · exact Nat.le_refl _
end
section
variable {B d n r : Nat} {mb : Nat → Nat} {tb : Nat} {L T M U : List (Int × Int)} {v u : Value} {w W W' : World}
/-- What holds no cells turns. -/
theorem BRef.aside (R : BRef W r n M U v u) {S : Nat → Prop} (ho : Only S W W') (hs : ∀ k A t f, S k → W.heap[k]? = some (.cells A t f) → False) : BRef W' r n M U v u := by
  obtain ⟨a, c, e, hf⟩ := R.fr
  obtain ⟨b, d, e2, ht⟩ := R.tk
  have key : ∀ {g : Option Addr} {K : List (Int × Int)}, RecsAt W (r + 1) g encB 2 K → RecsAt W' (r + 1) g encB 2 K := fun h hp => by
    obtain ⟨g, e, hg, hlt, A, t, hA, hi⟩ := h hp
    exact ⟨g, e, hg, Nat.lt_of_lt_of_le hlt ho.size, A, t, by rw [ho.block g hlt (fun h => hs g _ _ _ h hA)]; exact hA, hi⟩
  refine ⟨?_, ⟨a, c, e, key hf⟩, ⟨b, d, e2, key ht⟩⟩
  obtain ⟨A, t, hA, hi⟩ := R.row
  exact ⟨A, t, by rw [ho.block r (Array.getElem?_eq_some_iff.1 hA).1 (fun h => hs r _ _ _ h hA)]; exact hA, hi⟩
/-- Both nodes. -/
structure PyAt (B d n : Nat) (mb : Nat → Nat) (tb r : Nat) (L T M U : List (Int × Int)) (v u : Value) (w W : World) : Prop where
  st : StAt B d n mb tb L T w W
  ref : BRef W r n M U v u
  rB : B ≤ r
theorem PyAt.later (P : PyAt B d n mb tb r L T M U v u w W) (h : Below W.heap.size W W') : PyAt B d n mb tb r L T M U v u w W' := ⟨P.st.later h, P.ref.later h, P.rB⟩
/-- The program's turns. -/
theorem PyAt.turn (P : PyAt B d n mb tb r L T M U v u w W) {L' T' : List (Int × Int)} (N : NodeAt W' d n mb tb L' T') (I : Inv n L' T') (ho : Only (own6 mb tb) W W') : PyAt B d n mb tb r L' T' M U v u w W' :=
  ⟨P.st.turn N I ho, P.ref.aside ho (fun _ _ _ _ h hA => P.st.node.own_block h hA), P.rB⟩
theorem PyAt.apart (P : PyAt B d n mb tb r L T M U v u w W) : r ≠ d := fun e => by
  subst e
  have h1 := P.ref.c1
  have h2 := P.st.node.cf (o := 0) (by decide)
  obtain ⟨a, c, hv, _⟩ := P.ref.fr
  rw [show (1 + 0 : Nat) = 1 from rfl, h1, hv] at h2
  cases h2
/-- The document's turns. -/
theorem PyAt.turnR (P : PyAt B d n mb tb r L T M U v u w W) {M' U' : List (Int × Int)} {v' u' : Value} (R : BRef W' r n M' U' v' u') (ho : Only (Eq r) W W') : PyAt B d n mb tb r L T M' U' v' u' w W' :=
  ⟨⟨P.st.node.only ho P.apart (fun k hk e => P.st.node.own_row (by rw [← e] at hk; exact hk) P.ref.row), P.st.inv, ho.below P.st.bel P.st.le (fun k hk => by rw [← hk]; exact P.rB), P.st.own, P.st.d1, Nat.le_trans P.st.le ho.size⟩, R, P.rB⟩
/-- A row of the law's own stays. -/
theorem PyAt.rowN (P : PyAt B d n mb tb r L T M U v u w W) {b m : Nat} {f : Nat → Value} (R : RowAt W b m f) (ho : Only (own6 mb tb) W W') : RowAt W' b m f := R.only ho (fun h => P.st.node.own_row h R)
/-- A taken block of the document's. -/
theorem BRef.atT {a0 : Option Addr} {c0 : Nat} (R : BRef W r n M U v (.slice a0 U.length c0)) (j : Nat) (hj : j < U.length) : ∃ g, a0 = some ⟨g, 0, none⟩ ∧ W.cell? ⟨g, j * 2, none⟩ = some (.int .i64 U[j].1) ∧ W.cell? ⟨g, j * 2 + 1, none⟩ = some (.int .i64 U[j].2) := by
  obtain ⟨a, c, e, hF⟩ := R.tk
  injection e with e1 _ _
  subst e1
  obtain ⟨g, rfl, _, _, hr⟩ := hF.get encB_len j hj
  exact ⟨g, rfl, hr 0 _ rfl, hr 1 _ rfl⟩
/-- The copy goes on. -/
theorem PyAt.swap (P : PyAt B d n mb tb r L T M U v u w W) {d2 : Nat} {mb2 : Nat → Nat} {tb2 : Nat} {K V : List (Int × Int)} (N : NodeAt W d2 n mb2 tb2 K V) (I : Inv n K V) (hd : B ≤ d2) (ho : ∀ k, own6 mb2 tb2 k → B ≤ k) : PyAt B d2 n mb2 tb2 r K V M U v u w W :=
  ⟨⟨N, I, P.st.bel, ho, hd, P.st.le⟩, P.ref, P.rB⟩
end
end Go.Proofs.Ytilcdnkjfbkpnaa
