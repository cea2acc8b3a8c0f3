/-
  policy, the document's: Order: lists that grow beside one that is read.
-/
import Derived.Test.YtcbdmdalijhkoaaPoMay
import Derived.Test.YtcbdmdalijhkoaaPoRefO
import Derived.Test.YtcbdmdalijhkoaaAppAt
import Derived.Test.YtcbdmdalijhkoaaRec
import Derived.Test.YtcbdmdalijhkoaaThg
namespace Go.Proofs.Ytcbdmdalijhkoaa
open Go.RowKit Go
attribute [local go_sem] Oper.semAt_some

abbrev TIn : TypeId := 3
def iV (x : Nat) : Value := .int .i64 (x : Int)
/-- Numbers that lie in blocks from lo on, below hi. -/
def LstB (w : World) (v : Value) (L : List Nat) (lo hi : Nat) : Prop := ∃ a c, v = .slice a L.length c ∧ ∀ (i x : Nat), L[i]? = some x → ∃ b o, a = some ⟨b, o, none⟩ ∧ lo ≤ b ∧ b < hi ∧ w.cell? ⟨b, o + i, none⟩ = some (.int .i64 (x : Int))
theorem LstB.lst {w : World} {v : Value} {L : List Nat} {lo hi : Nat} (h : LstB w v L lo hi) : LstAt w v L := by
  obtain ⟨a, c, e, hc⟩ := h
  refine ⟨a, c, e, fun i x hi => ?_⟩
  obtain ⟨b, o, e2, _, _, h2⟩ := hc i x hi
  exact ⟨b, o, e2, h2⟩
theorem LstB.nil (w : World) (a : Option Addr) (c lo hi : Nat) : LstB w (.slice a 0 c) [] lo hi := ⟨a, c, rfl, fun i x hi => by simp at hi⟩
theorem LstB.only {S : Nat → Prop} {w w' : World} {v : Value} {L : List Nat} {lo hi : Nat} (h : LstB w v L lo hi) (ho : Only S w w') (hs : ∀ k, lo ≤ k → k < hi → ¬ S k) : LstB w' v L lo hi := by
  obtain ⟨a, c, e, hc⟩ := h
  refine ⟨a, c, e, fun i x hi => ?_⟩
  obtain ⟨b, o, e2, h1, h2, h3⟩ := hc i x hi
  exact ⟨b, o, e2, h1, h2, ho.cell (hs b h1 h2) h3⟩
theorem LstB.of_own {w : World} {B : Nat} {v : Value} {L : List Nat} (h : w.ownsRow B TIn 1 v L.length (L.map iV)) : LstB w v L B w.heap.size := by
  obtain ⟨a, c, e, hr⟩ := owns_slice h
  refine ⟨a, c, e, fun i x hi => ?_⟩
  have hl := (List.getElem?_eq_some_iff.1 hi).1
  obtain ⟨g, e2, hb, _, A, t, hA, hx⟩ := hr (by omega)
  refine ⟨g, 0, e2, hb, (Array.getElem?_eq_some_iff.1 hA).1, ?_⟩
  rw [cell_of_row _ _ _ _ _ _ hA, Nat.zero_add, hx i (by omega), List.getElem?_map, hi]
  rfl
/-- A list that grows (O), one that is read (N), the boxes. -/
structure PoAt (w : World) (A : Array Value) (g : Nat → Int) (k m : Nat) (nv : Value) (N : List Nat) (lo hi : Nat) (ov : Value) (O : List Nat) (wr : World) : Prop where
  cp : CpB w A g k m wr
  nr : LstB wr nv N lo hi
  ow : wr.ownsRow (w.heap.size + 2) TIn 1 ov O.length (O.map iV)
  ap : ∀ q, ov.ownBlock = some q → q < lo ∨ hi ≤ q
  le : hi ≤ wr.heap.size
theorem CpB.size {w W : World} {A : Array Value} {g : Nat → Int} {k m : Nat} (h : CpB w A g k m W) : w.heap.size + 2 ≤ W.heap.size := by
  have h1 : w.heap.size + 1 < W.heap.size := World.block_lt_of_cell? _ _ h.k0
  omega
theorem CpB.only {S : Nat → Prop} {w W W' : World} {A : Array Value} {g : Nat → Int} {k m : Nat} (h : CpB w A g k m W) (ho : Only S W W') (hs : ∀ j, S j → w.heap.size + 2 ≤ j) : CpB w A g k m W' := by
  have h1 : ¬ S w.heap.size := fun e => by have := hs _ e; omega
  have h2 : ¬ S (w.heap.size + 1) := fun e => by have := hs _ e; omega
  exact ⟨⟨h.cfg.cfg, (ho.block _ h.cfg.lt h1).trans h.cfg.block⟩, ho.cell h2 h.k0, ho.cell h2 h.k1, ho.below h.bel h.bel.size (fun j hj => by have := hs j hj; omega)⟩
section
variable {w wr w' : World} {A : Array Value} {g : Nat → Int} {k m lo hi : Nat} {nv ov ov' : Value} {N O : List Nat}
theorem PoAt.later (h : PoAt w A g k m nv N lo hi ov O wr) (hb : Below wr.heap.size wr w') : PoAt w A g k m nv N lo hi ov O w' :=
  ⟨h.cp.later hb, h.nr.only (Only.of_below (S := fun _ => False) hb) (fun _ _ _ h => h), owns_later h.ow hb, h.ap, Nat.le_trans h.le hb.size⟩
theorem PoAt.grow {x : Nat} (h : PoAt w A g k m nv N lo hi ov O wr) (ho : w'.ownsRow (w.heap.size + 2) TIn 1 ov' (O.length + 1) (O.map iV ++ (#[Value.int .i64 (x : Int)] : Array Value).toList)) (h2 : Only (fun j => ov.ownBlock = some j) wr w')
    (h3 : ov'.ownBlock = ov.ownBlock ∨ ∀ j, ov'.ownBlock = some j → wr.heap.size ≤ j) : PoAt w A g k m nv N lo hi ov' (O ++ [x]) w' := by
  refine ⟨h.cp.only h2 (fun j hj => (h.ow.lt j hj).1), h.nr.only h2 (fun j h4 h5 h6 => by have := h.ap j h6; omega), ?_, fun q hq => ?_, Nat.le_trans h.le h2.size⟩
  · rw [List.length_append, List.map_append]
    exact ho
  · rcases h3 with h3 | h3
    · exact h.ap q (by rw [← h3]; exact hq)
    · exact .inr (Nat.le_trans h.le (h3 q hq))
theorem PoAt.slice (h : PoAt w A g k m nv N lo hi ov O wr) : ∃ a c, ov = .slice a O.length c := by
  obtain ⟨a, c, e, _⟩ := owns_slice h.ow
  exact ⟨a, c, e⟩
/-- Another one is read. -/
theorem PoAt.turn {nv' : Value} {N' : List Nat} {lo' hi' : Nat} (h : PoAt w A g k m nv N lo hi ov O wr) (hn : LstB wr nv' N' lo' hi') (ha : ∀ q, ov.ownBlock = some q → q < lo' ∨ hi' ≤ q) (hl : hi' ≤ wr.heap.size) : PoAt w A g k m nv' N' lo' hi' ov O wr :=
  ⟨h.cp, hn, h.ow, ha, hl⟩
/-- The one that has grown is read now. -/
theorem PoAt.fresh (h : PoAt w A g k m nv N lo hi ov O wr) : PoAt w A g k m ov O (w.heap.size + 2) wr.heap.size (.slice none 0 0) [] wr :=
  ⟨h.cp, LstB.of_own h.ow, World.ownsRow_nil _ _ _ _, fun q hq => (by cases hq), Nat.le_refl _⟩
end
section
variable {P : Program} {ops : Array Oper} {rest : List Oper} {o : Oper} {a : Act} {Q : Exit → Act → World → Prop}
theorem wpList_append_whr (w : World) (hgd : o.guard = none) (s x : Operand) (t : TypeId)
    (ho : o.op = .call { callee := .builtin .append, args := #[s, x], argTypes := #[t, t] })
    (base : Nat) (e : TypeId) (i : TypeInfo) (z : Value) (size bytes : Nat) (ht : P.underlying t = some (.slice e)) (hi : P.info? e = some i) (hz : i.zero = some z)
    (hsize : i.size = size) (hby : i.bytes = bytes) (hzs : z.cells.size = size) (hsz : 0 < size)
    (v : Value) (n : Nat) (xs : List Value) (us : Array Value) (hown : w.ownsRow base e size v n xs) (hbase : base ≤ w.heap.size) (hs : a.eval s = v) (hx : a.eval x = .slice (some ⟨w.heap.size, 0, none⟩) 1 1)
    (hus : us.size = size) (h1 : ∀ u ∈ us.toList, u.oneCell' = true) (hn : n ≤ 1000) (hb : bytes ≤ 1000)
    (h : ∀ v' w', w'.ownsRow base e size v' (n + 1) (xs ++ us.toList) → Only (fun k => v.ownBlock = some k) w w' → (v'.ownBlock = v.ownBlock ∨ ∀ k, v'.ownBlock = some k → w.heap.size ≤ k) → wpList P ops Q rest (a.put o.dst v') w') :
    wpList P ops Q (o :: rest) a (w.alloc (.cells us e)) := by
  refine wpList_plain hgd fun K hK => ?_
  have hadd : ∀ j, (⟨w.heap.size, 0, none⟩ : Addr).add j = ⟨w.heap.size, j, none⟩ := fun j => by unfold Addr.add; split <;> simp_all
  have hl : us.toList.length = 1 * size := by rw [Array.length_toList, hus, Nat.one_mul]
  have hnews : ∀ j u, us.toList[j]? = some u → (w.alloc (.cells us e)).cell? ((⟨w.heap.size, 0, none⟩ : Addr).add j) = some u := fun j u hj => by
    rw [hadd j, cell_of_row _ _ _ _ _ _ (heap_alloc_new w _)]
    simpa using hj
  have hown2 := hown.alloc (.cells us e)
  obtain ⟨v', w', hr, h2, h3, _⟩ := run_append_own (P := P) _ base t o.type e i z size bytes ht hi hz hsize hby hzs hsz v n xs hown2 ⟨w.heap.size, 0, none⟩ 1 1 us.toList hl hnews h1 (by unfold maxLen; omega) (Nat.le_trans (Nat.mul_le_mul (show n + 1 ≤ 1001 by omega) hb) (by decide)) (by simp; omega)
  have hwh := append_where (P := P) base t o.type e i z size bytes ht hi hz hsize hby v n xs hown2 ⟨w.heap.size, 0, none⟩ 1 us.toList hl hnews h1 hn hb hr
  unfold Oper.wp execOp
  simp only [ho, resolve, invoke, builtin, Sem.run_bind, Sem.run_pure, Result.andThen_ok, List.map_toArray, List.map_cons, List.map_nil, hs, hx, hr]
  refine hK _ _ (h v' w' h2 ((Only.alloc _ w _).trans (Only.of_grown h3)) (hwh.imp id (fun h k hk => ?_)))
  have := h k hk
  simp at this
  omega
end
/-- The document's order of a config, as numbers. -/
theorem refo_near (A : Array Value) (g : Nat → Int) (k n : Nat) (w : World) (hA : Cfg A g) (G : Good g) (hn : g 0 = n) (hk : k < n) :
    Calls Try.prog 26 #[.agg A, .int .i64 k] w fun e w' => ∃ v, e = .returned v ∧ LstB w' v (nearN g k n) w.heap.size w'.heap.size ∧ Below w.heap.size w w' := by
  refine (reforder_any A g k n w hA G hn hk).mono ?_
  rintro e w' ⟨v, rfl, R⟩
  refine ⟨v, rfl, ?_, R.below⟩
  have ho := R.own
  have hl := ordL_length g k n
  rw [List.take_of_length_le (by omega)] at ho
  have e1 : (ordL g k n).map encN = (nearN g k n).map iV := by
    unfold nearN
    rw [List.map_map]
    rfl
  rw [e1] at ho
  have h2 := LstB.of_own (L := nearN g k n) (by rw [nearN_len]; exact ho)
  obtain ⟨a, c, e, hc⟩ := h2
  refine ⟨a, c, e, fun i x hi => ?_⟩
  obtain ⟨b, o, e2, h1, h3, h4⟩ := hc i x hi
  exact ⟨b, o, e2, by omega, h3, h4⟩
end Go.Proofs.Ytcbdmdalijhkoaa
