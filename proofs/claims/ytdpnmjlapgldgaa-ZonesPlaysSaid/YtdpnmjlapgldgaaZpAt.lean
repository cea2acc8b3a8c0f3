/-
  ZonesPlays: the program's zones and the document's, side by side.
-/
import Derived.Test.YtdpnmjlapgldgaaM07
import Derived.Test.YtdpnmjlapgldgaaM01
namespace Go.Proofs.Ytdpnmjlapgldgaa
open Go.RowKit Go

section
variable {n : Nat} {L T : List (Int × Int)}
theorem giveS_less (L T : List (Int × Int)) (x o : Int) : (giveS L T x o).2.2.length ≤ T.length := by
  unfold giveS
  split
  · exact List.length_filter_le _ _
  · exact Nat.le_refl _
theorem takeS_more (I : Inv n L T) (order : Int) (high : Bool) : (takeS L T order high).2.2.2.length ≤ T.length + 1 := by
  rcases take_cases I order high with ⟨y, M, e, _⟩ | ⟨z, _, e⟩
  · rw [e]; simp
  · rw [e]; simp
end
section
variable {g : Nat → Int} {N k : Nat} {L T : Nat → List (Int × Int)}
/-- No node has more than k blocks taken. -/
def tkLe (N : Nat) (T : Nat → List (Int × Int)) (k : Nat) : Prop := ∀ i, i < N → (T i).length ≤ k
theorem tkLe.mono {k' : Nat} (h : tkLe N T k) (hk : k ≤ k') : tkLe N T k' := fun i hi => Nat.le_trans (h i hi) hk
theorem tkLe.updN (h : tkLe N T k) {j : Nat} {U : List (Int × Int)} (hU : U.length ≤ k) : tkLe N (updN T j U) k := fun i hi => by
  unfold Go.Proofs.Ytdpnmjlapgldgaa.updN
  split
  · exact hU
  · exact h i hi
theorem tkLe_takeOf (h : tkLe N T k) (I : ∀ i, i < N → Inv (frN g i) (L i) (T i)) (node order : Int) (high : Bool) : tkLe N (zTakeOf g N L T node order high).2.2.2 (k + 1) := by
  unfold zTakeOf
  split
  · rename_i hn
    have hi : node.toNat < N := by omega
    refine (h.mono (Nat.le_succ k)).updN ?_
    have h1 := takeS_more (I _ hi) order high
    have h2 := h _ hi
    exact Nat.le_trans h1 (by omega)
  · exact h.mono (Nat.le_succ k)
theorem tkLe_take (h : tkLe N T k) (I : ∀ i, i < N → Inv (frN g i) (L i) (T i)) (M : List Int) (floor : Int) (high : Bool) : tkLe N (zTake g N L T M floor high).2.2.2 (k + 1) := by
  unfold zTake
  split
  · exact h.mono (Nat.le_succ k)
  · split
    · exact h.mono (Nat.le_succ k)
    · split
      · exact tkLe_takeOf h I _ _ _
      · exact h.mono (Nat.le_succ k)
theorem tkLe_give (h : tkLe N T k) (frame order : Int) : tkLe N (zGive g N L T frame order).2.2 k := by
  unfold zGive
  split
  · by_cases hn : nodeF g N frame.toNat < N
    · exact h.updN (Nat.le_trans (giveS_less _ _ _ _) (h _ hn))
    · intro i hi
      show (updN T _ _ i).length ≤ k
      rw [updN_other _ (by omega)]
      exact h i hi
  · exact h
end
section
variable {B : Nat} {Z : ZC} {Zr : ZB} {g : Nat → Int} {L T M U L' T' : Nat → List (Int × Int)} {w W W' : World}
/-- A node's maps are no cells. -/
theorem NodeAt.maps_no {d n : Nat} {mb : Nat → Nat} {tb : Nat} {L T : List (Int × Int)} (N : NodeAt W d n mb tb L T) {k : Nat} (h : own6 mb tb k) {A : Array Value} {t : TypeId} {f : Nat × Nat} (r : W.heap[k]? = some (.cells A t f)) : False := by
  have key : ∀ {α : Type} {R : Value → Option (MDat × List MemPlace)} {E : Elem R α} {b : Nat} {g : Int → Option α}, FMap Try.prog 3 E W b g → W.heap[b]? = some (.cells A t f) → False := fun hF hb => by
    obtain ⟨D, l, ⟨es, clock, hm, _⟩, _⟩ := hF
    rw [hm] at hb
    cases hb
  rcases h with rfl | ⟨o, ho, rfl⟩
  · exact key N.tkn r
  · exact key (N.free o ho) r
theorem ZnAt.maps_no (A : ZnAt W Z g L T) {k : Nat} (h : Z.maps k) {B : Array Value} {t : TypeId} {f : Nat × Nat} (r : W.heap[k]? = some (.cells B t f)) : False := by
  obtain ⟨i, hi, h⟩ := h
  exact (A.nd i hi).maps_no h r
/-- What holds no cells turns. -/
theorem ZRef.beside (R : ZRef W Zr g M U) {S : Nat → Prop} (ho : Only S W W') (hs : ∀ k A t f, S k → W.heap[k]? = some (.cells A t f) → False) : ZRef W' Zr g M U := by
  have key : ∀ {b n : Nat} {f : Nat → Value}, RowAt W b n f → RowAt W' b n f := fun h => by
    obtain ⟨A, t, hA, hi⟩ := h
    exact ⟨A, t, by rw [ho.block _ (Array.getElem?_eq_some_iff.1 hA).1 (fun h => hs _ _ _ _ h hA)]; exact hA, hi⟩
  exact ⟨key R.row, key R.lst, key R.nod, fun i hi => by obtain ⟨v, u, b⟩ := R.ref i hi; exact ⟨v, u, b.aside ho hs⟩, R.inj, R.good, R.num⟩
/-- Both zones. -/
structure PzAt (B : Nat) (Z : ZC) (Zr : ZB) (g : Nat → Int) (L T M U : Nat → List (Int × Int)) (w W : World) : Prop where
  zn : ZnAt W Z g L T
  ref : ZRef W Zr g M U
  bel : Below B w W
  own : ∀ k, Z.all k → B ≤ k
  ro : ∀ k, Zr.own k → B ≤ k
  le : B ≤ W.heap.size
theorem PzAt.later (P : PzAt B Z Zr g L T M U w W) (h : Below W.heap.size W W') : PzAt B Z Zr g L T M U w W' :=
  ⟨P.zn.later h, P.ref.later h, P.bel.trans (h.mono P.le), P.own, P.ro, Nat.le_trans P.le h.size⟩
theorem PzAt.num (P : PzAt B Z Zr g L T M U w W) : Zr.N = Z.N := by have := P.zn.num; have := P.ref.num; omega
/-- The program's turns. -/
theorem PzAt.turn (P : PzAt B Z Zr g L T M U w W) (N : ZnAt W' Z g L' T') (ho : Only Z.maps W W') : PzAt B Z Zr g L' T' M U w W' :=
  ⟨N, P.ref.beside ho (fun _ _ _ _ h hA => P.zn.maps_no h hA), ho.below P.bel P.le (fun k hk => P.own k (ZC.maps_all hk)), P.own, P.ro, Nat.le_trans P.le ho.size⟩
theorem PzAt.apart (P : PzAt B Z Zr g L T M U w W) (k : Nat) (hk : Z.all k) : ¬ Zr.own k := by
  rintro ⟨i, hi, rfl⟩
  obtain ⟨v, u, b⟩ := P.ref.ref i hi
  obtain ⟨a, l, c, h1⟩ := b.one
  have h0 := b.c0
  have h8 := P.zn.n8
  rcases hk with h | h | ⟨j, hj, h | h⟩
  · rw [h, P.zn.row.cell 1 (by decide)] at h1
    cases h1
  · rw [h, P.zn.lst.cell 0 (by omega)] at h0
    cases h0
  · have h2 := (P.zn.nd j hj).cf (o := 0) (by decide)
    rw [← h, show (1 + 0 : Nat) = 1 from rfl, h1] at h2
    cases h2
  · exact (P.zn.nd j hj).own_row h b.row
/-- The document's turns. -/
theorem PzAt.turnR (P : PzAt B Z Zr g L T M U w W) (R : ZRef W' Zr g L' T') (ho : Only Zr.own W W') : PzAt B Z Zr g L T L' T' w W' :=
  ⟨P.zn.only ho P.apart, R, ho.below P.bel P.le P.ro, P.own, P.ro, Nat.le_trans P.le ho.size⟩
/-- The copy goes on. -/
theorem PzAt.swap {Z2 : ZC} (P : PzAt B Z Zr g L T M U w W) (N : ZnAt W Z2 g L' T') (ho : ∀ k, Z2.all k → B ≤ k) : PzAt B Z2 Zr g L' T' M U w W :=
  ⟨N, P.ref, P.bel, ho, P.ro, P.le⟩
theorem PzAt.inv (P : PzAt B Z Zr g L T L T w W) : ∀ i, i < Zr.N → Inv (frN g i) (L i) (T i) := fun i hi => P.zn.inv i (by have := P.num; omega)
/-- A call of the law's own stays. -/
theorem PzAt.opN (P : PzAt B Z Zr g L T M U w W) {b : Nat} {o : OpZ} (R : RowAt W b 6 (ozV o)) (ho : Only Z.maps W W') : RowAt W' b 6 (ozV o) :=
  R.only ho (fun ⟨i, hi, h⟩ => (P.zn.nd i hi).own_row h R)
theorem PzAt.opR (P : PzAt B Z Zr g L T M U w W) {b : Nat} {o : OpZ} (R : RowAt W b 6 (ozV o)) (ho : Only Zr.own W W') : RowAt W' b 6 (ozV o) :=
  R.only ho (fun ⟨i, hi, h⟩ => by
    obtain ⟨v, u, r⟩ := P.ref.ref i hi
    obtain ⟨a, l, c, h1⟩ := r.one
    rw [← h, R.cell 1 (by decide)] at h1
    cases h1)
end
section
variable {w w' W : World}
/-- Ints as they lie. -/
def intsV (z : Nat → Int) (n : Nat) : List Value := (List.range n).map fun i => .int .i64 (z i)
theorem intsV_len (z : Nat → Int) (n : Nat) : (intsV z n).length = n := by simp [intsV]
theorem intsV_at (z : Nat → Int) {n i : Nat} (h : i < n) : (intsV z n)[i]? = some (.int .i64 (z i)) := by
  unfold intsV
  rw [List.getElem?_map, List.getElem?_range h]; rfl
theorem intsV_one (z : Nat → Int) (n : Nat) : ∀ u ∈ intsV z n, u.oneCell' = true := fun u hu => by
  obtain ⟨i, _, rfl⟩ := List.mem_map.1 hu
  rfl
theorem IntsIn.later {a : Option Addr} {len : Nat} {z : Nat → Int} (h : IntsIn w a len z) (hb : Below w.heap.size w W) : IntsIn W a len z := fun i hi => by
  obtain ⟨b, o, e, hc, h1⟩ := h i hi
  exact ⟨b, o, e, by rw [hb.cell (World.block_lt_of_cell? _ _ hc)]; exact hc, h1⟩
theorem IntsIn.src {a : Option Addr} {len : Nat} {z : Nat → Int} (h : IntsIn w a len z) : 0 < len → ∃ ad, a = some ad ∧ ∀ j u, (intsV z len)[j]? = some u → w.cell? (ad.add j) = some u := fun hp => by
  obtain ⟨b, o, e, _⟩ := h 0 hp
  refine ⟨_, e, fun j u hj => ?_⟩
  have hjl : j < len := by
    have := (List.getElem?_eq_some_iff.1 hj).1
    rwa [intsV_len] at this
  obtain ⟨b', o', e', hc, _⟩ := h j hjl
  rw [e] at e'
  injection e' with e'
  injection e' with h1 h2 _
  subst h1
  subst h2
  rw [intsV_at z hjl] at hj
  injection hj with hj
  subst hj
  rw [add_plain]
  exact hc
/-- Ints of the call's own. -/
theorem IntsIn.of_owns {base len : Nat} {v : Value} {z : Nat → Int} (h : w.ownsRow base 3 1 v len (intsV z len)) (hz : ∀ i, i < len → -9223372036854775808 ≤ z i ∧ z i ≤ 9223372036854775807) : ∃ a c, v = .slice a len c ∧ IntsIn w a len z := by
  obtain ⟨a, c, rfl, hh⟩ := owns_slice h
  refine ⟨a, c, rfl, fun i hi => ?_⟩
  obtain ⟨g, rfl, _, _, A, t, hA, hx⟩ := hh (by omega)
  have h1 := hx i (by omega)
  rw [intsV_at z hi] at h1
  exact ⟨g, 0, rfl, by rw [cell_of_row _ _ _ _ _ _ hA, Nat.zero_add]; exact h1, hz i hi⟩
theorem IntsIn.bd {a : Option Addr} {len : Nat} {z : Nat → Int} (h : IntsIn w a len z) : ∀ i, i < len → -9223372036854775808 ≤ z i ∧ z i ≤ 9223372036854775807 := fun i hi => by
  obtain ⟨_, _, _, _, h1⟩ := h i hi
  exact h1
theorem opz_six {o : OpZ} {ob : Nat} (R : RowAt W ob 6 (ozV o)) : W.cell? ⟨ob, 0, none⟩ = some (.int .i64 o.kind) ∧ W.cell? ⟨ob, 1, none⟩ = some (.int .i64 o.node) ∧ W.cell? ⟨ob, 2, none⟩ = some (.int .i64 o.order) ∧ W.cell? ⟨ob, 3, none⟩ = some (.int .i64 o.floor) ∧ W.cell? ⟨ob, 4, none⟩ = some (.slice o.nds o.len o.cap) ∧ W.cell? ⟨ob, 5, none⟩ = some (.bool o.high) :=
  ⟨R.cell 0 (by decide), R.cell 1 (by decide), R.cell 2 (by decide), R.cell 3 (by decide), R.cell 4 (by decide), R.cell 5 (by decide)⟩
theorem OpsZ.one {a : Option Addr} {len : Nat} {O : Nat → OpZ} (h : OpsZ w a len O) (k : Nat) (hk : k < len) : ∃ b o, a = some ⟨b, o, none⟩ ∧ b < w.heap.size ∧ (O k).ok w ∧ ∀ W, Below w.heap.size w W →
    W.cell? ⟨b, o + k * 6, none⟩ = some (.int .i64 (O k).kind) ∧ W.cell? ⟨b, o + k * 6 + 1, none⟩ = some (.int .i64 (O k).node) ∧ W.cell? ⟨b, o + k * 6 + 2, none⟩ = some (.int .i64 (O k).order) ∧ W.cell? ⟨b, o + k * 6 + 3, none⟩ = some (.int .i64 (O k).floor) ∧ W.cell? ⟨b, o + k * 6 + 4, none⟩ = some (.slice (O k).nds (O k).len (O k).cap) ∧ W.cell? ⟨b, o + k * 6 + 5, none⟩ = some (.bool (O k).high) := by
  obtain ⟨b, o, e, hr, hok⟩ := h k hk
  have h0 := hr 0 _ rfl
  have hb : b < w.heap.size := World.block_lt_of_cell? _ _ h0
  refine ⟨b, o, e, hb, hok, fun W hW => ?_⟩
  have key : ∀ (j : Nat) v, (O k).arr.toList[j]? = some v → W.cell? ⟨b, o + k * 6 + j, none⟩ = some v := fun j v hv => by rw [hW.cell (p := ⟨b, o + k * 6 + j, none⟩) hb]; exact hr j v hv
  exact ⟨key 0 _ rfl, key 1 _ rfl, key 2 _ rfl, key 3 _ rfl, key 4 _ rfl, key 5 _ rfl⟩
end
theorem sizeOpZ : (Try.prog.info? 39).map (·.size) = some 6 := by kernel_rfl
theorem store_opz (w : World) (Z : Array Value) (hz : Z.size = 6) (o : OpZ) :
    (storeVar 39 ⟨w.heap.size, 0, none⟩ (.agg o.arr)).run Try.prog (w.alloc (.cells Z 39)) = .ok () (w.alloc (.cells o.arr 39)) :=
  run_storeVar_new (P := Try.prog) w 39 Z _ sizeOpZ hz (by simp [OpZ.arr, Value.oneCell'])
theorem opz_row (w : World) (o : OpZ) : RowAt (w.alloc (.cells o.arr 39)) w.heap.size 6 (ozV o) := RowAt.new w _ _ 6 _ (oz_at o)
end Go.Proofs.Ytdpnmjlapgldgaa
