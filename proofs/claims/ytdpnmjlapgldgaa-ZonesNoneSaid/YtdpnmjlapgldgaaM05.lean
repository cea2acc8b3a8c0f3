/-
  Texts that this claim builds on, merged.
-/
import Derived.Test.YtdpnmjlapgldgaaM04
import Derived.ControlIn
import Derived.Test.YtdpnmjlapgldgaaM02
import Derived.Test.YtdpnmjlapgldgaaM01
import Derived.Laws.Tables
import Derived.Great.BuildSlice
namespace Go.Proofs.Ytdpnmjlapgldgaa
/-! buddy: Most: slices.Backward over the maps, as an iterator; Blocks of a node, told whole. -/
section
open Go.RowKit Go.Shelf Go
attribute [local go_sem] Oper.semAt_some

section
variable {w : World} {d n : Nat} {mb : Nat → Nat} {tb : Nat} {L T : List (Int × Int)}
theorem blocks_stops (m : Nat) (hm : 1 ≤ m) (Bn : Nat) (C : Nat → Prop) (I : Inv n L T) (N : NodeAt w d n mb tb L T) (hc : w.cell? ⟨Bn, 0, none⟩ = some (.pointer (some ⟨d, 0, none⟩))) (hd : ¬ C d) (ho : ∀ k, own6 mb tb k → ¬ C k) (hBn : ¬ C Bn) (hC : ∀ k, C k → k < w.heap.size) :
    SeqStopsK Fence.wide m Try.prog 64 #[.pointer (some ⟨Bn, 0, none⟩)] (fun x : Fin L.length => #[blk (L[x.val]'x.isLt)]) (KpC C w.heap.size)
      (fun xs => xs.map Fin.val = List.range L.length) (fun pre => ∃ k, k ≤ L.length ∧ pre.map Fin.val = List.range k) L.length w := by
  intro l J Jx W hW hJ _ hY h0
  exact blocks_in m hm l Bn w.heap.size C I J Jx W hJ hY (N.later hW) (by rw [hW.cell (World.block_lt_of_cell? _ _ hc)]; exact hc) hd (fun k hk => ⟨N.own_lt hk, ho k hk⟩) hBn hW.size hC h0
end

/-- What Backward has told down to r. -/
def downL (r : Nat) : List Nat := ((List.range 11).reverse).take (11 - r)
theorem downL_next {s : Nat} (h : s < 11) : downL (s + 1) ++ [s] = downL s := by
  have h2 : ((List.range 11).all fun s => downL (s + 1) ++ [s] == downL s) = true := by decide +kernel
  exact eq_of_beq (List.all_eq_true.1 h2 s (List.mem_range.2 h))
theorem downL_mem {r x : Nat} (h : x < 11) (hr : r ≤ 11) : x ∈ downL r ↔ r ≤ x := by
  have h2 : ((List.range 12).all fun r => (List.range 11).all fun x => (decide (x ∈ downL r)) == decide (r ≤ x)) = true := by decide +kernel
  have h3 := eq_of_beq (List.all_eq_true.1 (List.all_eq_true.1 h2 r (List.mem_range.2 (by omega))) x (List.mem_range.2 h))
  exact decide_eq_decide.1 h3
theorem leaves_one {m : Nat} {fn : Func} {tmps : Array Value} {R : Ending → World → Prop} {W : World} {D : Nat} (h1 : W.heap[D]? = some (.deferred (some []))) (h : LeavesInM Fence.wide m Try.prog fn tmps R [] .returning (W.putObj D (.deferred none))) :
    bodyPostM Fence.wide m Try.prog fn R .ret { tmps := tmps, defers := [{ target := Target.collected D, args := #[] }] } W :=
  ⟨by simp, .inl ⟨D, _, rfl, run_takeDeferred h1, h⟩⟩
theorem below_putObj {B : Nat} {w W : World} (h : Below B w W) (D : Nat) (o : Obj) (hD : B ≤ D) (hB : B ≤ W.heap.size) : Below B w (W.putObj D o) :=
  h.grown (grownBy_putObj' W D o) hB (fun k e => by cases e; exact hD)
theorem cell_putObj (W : World) (D : Nat) (o : Obj) (a : Addr) (h : a.block ≠ D) : (W.putObj D o).cell? a = W.cell? a := World.cell?_of_block (World.putObj_heap_other h)
/-- What a map's length says: whether it holds anything. -/
def LenV (W : World) (B : Nat) (v : Value) (e : Prop) : Prop := (v = .map none ∧ ¬ e) ∨ ∃ b f, v = .map (some b) ∧ b < B ∧ FMap Try.prog 3 EU W b f ∧ (e ↔ ∃ x, (f x).isSome = true)
theorem LenV.kept {W W' : World} {B : Nat} {v : Value} {e : Prop} (h : LenV W B v e) (k : KpC (fun _ => False) B W W') : LenV W' B v e := by
  rcases h with h | ⟨b, f, rfl, hb, hF, he⟩
  · exact .inl h
  · exact .inr ⟨b, f, rfl, hb, k.fmap hF hb (fun h => h), he⟩
theorem len_pos {l : List Int} {x : Int} (h : x ∈ l) : 0 < (l.length : Int) := by
  have h1 := List.length_pos_of_mem h
  omega
theorem len_nil {l : List Int} (h : ∀ x, x ∉ l) : l = [] := List.eq_nil_iff_forall_not_mem.2 h
/-- The greatest order. -/
def MstE (E : Nat → Prop) (x : Int) : Prop := (x = -1 ∧ ∀ i, i < 11 → ¬ E i) ∨ ∃ o : Nat, x = o ∧ o < 11 ∧ E o ∧ ∀ i, i < 11 → o < i → ¬ E i

/-- The blocks of ranges' deferred calls. -/
def colls (Ds : List Nat) : List Deferred := Ds.map fun D => { target := Target.collected D, args := #[] }
theorem colls_cons (D : Nat) (Ds : List Nat) : colls (D :: Ds) = { target := Target.collected D, args := #[] } :: colls Ds := rfl
theorem leaves_many {m : Nat} {fn : Func} {tmps : Array Value} {R : Ending → World → Prop} : ∀ (Ds : List Nat) (W : World), Ds.Nodup → (∀ D ∈ Ds, W.heap[D]? = some (.deferred (some []))) →
    (∀ W', Only (fun k => k ∈ Ds) W W' → W'.heap.size = W.heap.size → LeavesInM Fence.wide m Try.prog fn tmps R [] .returning W') → LeavesInM Fence.wide m Try.prog fn tmps R (colls Ds) .returning W
  | [], W, _, _, h => h W (Only.refl _ _) rfl
  | D :: Ds, W, hn, h1, h => by
    obtain ⟨hn1, hn2⟩ := List.nodup_cons.1 hn
    refine ⟨by simp, .inl ⟨D, _, rfl, run_takeDeferred (h1 D List.mem_cons_self), leaves_many Ds (W.putObj D (.deferred none)) hn2 (fun E hE => ?_) (fun W' ho hs => h W' ?_ ?_)⟩⟩
    · rw [World.putObj_heap_other (fun e => hn1 (by rw [← e]; exact hE))]
      exact h1 E (List.mem_cons_of_mem _ hE)
    · refine Only.trans ?_ (ho.mono fun k hk => List.mem_cons_of_mem _ hk)
      exact ⟨rfl, rfl, rfl, by simp [World.putObj], fun k _ hk => World.putObj_heap_other (fun e => hk (by rw [e]; exact List.mem_cons_self))⟩
    · rw [hs]; simp [World.putObj]
end
/-! buddy: Give. -/
section
open Go.RowKit Go Go.Maps

section
variable {n : Nat} {L T : List (Int × Int)}
/-- At one place one order was taken. -/
theorem Inv.one (I : Inv n L T) {x o p : Int} (h1 : (x, o) ∈ T) (h2 : (x, p) ∈ T) : o = p := by
  obtain ⟨a, c, e⟩ := I.natT _ h1
  rw [Prod.mk.injEq] at e
  obtain ⟨rfl, rfl⟩ := e
  obtain ⟨b, c2, e⟩ := I.natT _ h2
  rw [Prod.mk.injEq] at e
  obtain ⟨e, rfl⟩ := e
  obtain rfl : a = b := by omega
  have := (I.stk.ap c a c2 a a (.inr h1) (.inr h2) (self_in _ _) (self_in _ _)).1
  omega
theorem Inv.tk (I : Inv n L T) {x o : Int} (h : (x, o) ∈ T) : tkL T x = some o := by
  cases e : tkL T x with
  | none => exact absurd h (tkL_none.1 e o)
  | some p => rw [I.one h (tkL_some e)]
theorem Inv.cut (I : Inv n L T) {x o : Int} (h : (x, o) ∈ T) : tkL (dropL T (x, o)) = fcut (tkL T) x := by
  funext z
  unfold fcut
  by_cases e : z = x
  · subst e
    rw [if_pos rfl, tkL_none]
    intro p hp
    obtain ⟨h1, h2⟩ := mem_dropL.1 hp
    exact h2 (by rw [I.one h1 h])
  · rw [if_neg e]
    cases e2 : tkL T z with
    | none =>
      rw [tkL_none]
      intro p hp
      exact tkL_none.1 e2 p (mem_dropL.1 hp).1
    | some p =>
      have hp := tkL_some e2
      cases e3 : tkL (dropL T (x, o)) z with
      | none => exact absurd (mem_dropL.2 ⟨hp, fun e4 => e (by injection e4)⟩) (tkL_none.1 e3 p)
      | some p2 => rw [I.one hp (mem_dropL.1 (tkL_some e3)).1]
/-- What Give comes to. -/
theorem Inv.give (I : Inv n L T) {x o : Nat} (h : ((x : Int), (o : Int)) ∈ T) : Inv n (giveL (10 - o) L (x : Int) o) (dropL T ((x : Int), (o : Int))) ∧ o ≤ 10 ∧ x < n ∧ giveS L T (x : Int) (o : Int) = (0, giveL (10 - o) L (x : Int) o, dropL T ((x : Int), (o : Int))) := by
  obtain ⟨h1, h2, h3⟩ := I.stk.al o x (.inr h)
  have hp := Nat.one_le_two_pow (n := o)
  obtain ⟨S, R, N⟩ := give_stk (10 - o) L x o _ I.stk h I.ris I.nat (by omega)
  have hT : ∀ q a, (memL T q a ∧ ¬ (q = o ∧ a = x)) ↔ memL (dropL T ((x : Int), (o : Int))) q a := fun q a => (memL_drop q a).symm
  rw [set_eq hT] at S
  refine ⟨⟨I.n1, I.n2, S, R, N, fun p hp => I.natT p (mem_dropL.1 hp).1⟩, h1, by omega, ?_⟩
  unfold giveS
  rw [if_pos (List.contains_iff_mem.2 h), Int.toNat_natCast]
theorem Inv.giveAny (I : Inv n L T) (x o : Int) : Inv n (giveS L T x o).2.1 (giveS L T x o).2.2 := by
  by_cases h : (x, o) ∈ T
  · obtain ⟨a, b, e⟩ := I.natT _ h
    rw [Prod.mk.injEq] at e
    obtain ⟨rfl, rfl⟩ := e
    obtain ⟨J, _, _, e⟩ := I.give h
    rw [e]
    exact J
  · unfold giveS
    rw [if_neg (fun h2 => h (List.contains_iff_mem.1 h2))]
    exact I
end
section
variable {w : World} {d n : Nat} {mb : Nat → Nat} {tb : Nat} {L T : List (Int × Int)}
def Give6 (w : World) (d n : Nat) (mb : Nat → Nat) (tb : Nat) (L T : List (Int × Int)) (x o : Int) (e : Ending) (w' : World) : Prop :=
  e = .returned (.int .i64 (giveS L T x o).1) ∧ NodeAt w' d n mb tb (giveS L T x o).2.1 (giveS L T x o).2.2 ∧ Only (own6 mb tb) w w'
set_option maxRecDepth 100000 in
set_option maxHeartbeats 2000000 in
theorem give6_any (N : NodeAt w d n mb tb L T) (I : Inv n L T) (x o : Int) (hx : -9223372036854775808 ≤ x ∧ x ≤ 9223372036854775807) :
    Calls Try.prog 39 #[.pointer (some ⟨d, 0, none⟩), .int .i64 x, .int .i64 o] w (Give6 w d n mb tb L T x o) := by
  by_cases hm : (x, o) ∈ T
  · obtain ⟨a, b, e⟩ := I.natT _ hm
    rw [Prod.mk.injEq] at e
    obtain ⟨rfl, rfl⟩ := e
    obtain ⟨J, hb, han, e⟩ := I.give hm
    have HE := Lib.hid e
    have HC := Lib.hid (I.cut hm)
    have HTK := Lib.hid (I.tk hm)
    have hn2 := I.n2
    have HN := Lib.hid N
    clear e
    go_enter Try.func39, Try.ntmps39
    go_wp2_with (fail)
    refine (missing_any HN.out I.n1).mono ?_
    rintro e w' ⟨rfl, rfl⟩
    go_wp2_with (fail)
    refine (taken6_any HN.out _ hx).mono ?_
    rintro e w' ⟨rfl, rfl⟩
    rw [HTK.out]
    have c12 := N.c12
    go_wp2_with (first | (at_delete; (refine wpList_drop_fmap rfl _ _ _ _ rfl 3 Try.underlying3 Try.underlying58 EI tb (tkL T) rfl N.tkn a rfl (int_wf (by omega)) ?_; intro w3 h1 h2)) | fail)
    have HN3 := Lib.hid (N.setT (T' := dropL T ((a : Int), (b : Int))) h1 h2 HC.out (fun p hp => N.tbnd p (mem_dropL.1 hp).1))
    have HO3 := Lib.hid (show Only (own6 mb tb) w w3 from h2.mono fun k hk => .inl hk)
    clear h1 h2 N HN c12
    refine (join_any HN3.out hb (by omega)).mono ?_
    rintro e w4 ⟨rfl, hN4, ho4⟩
    have HF := Lib.hid (show Give6 w d n mb tb L T (a : Int) (b : Int) (.returned (.int .i64 0)) w4 by
      unfold Give6
      rw [HE.out]
      exact ⟨rfl, hN4, HO3.out.trans (ho4.mono fun k hk => .inr hk)⟩)
    clear hN4 ho4
    go_wp2_with (fail)
    go_ret
    exact HF.out
  · have HF := Lib.hid (show Give6 w d n mb tb L T x o (.returned (.int .i64 2)) w by
      unfold Give6 giveS
      rw [if_neg (fun h2 => hm (List.contains_iff_mem.1 h2))]
      exact ⟨rfl, N, Only.refl _ _⟩)
    cases e : tkL T x with
    | none =>
      have HTK := Lib.hid e
      clear e
      go_enter Try.func39, Try.ntmps39
      go_wp2_with (fail)
      refine (missing_any N I.n1).mono ?_
      rintro e w' ⟨rfl, rfl⟩
      go_wp2_with (fail)
      refine (taken6_any N _ hx).mono ?_
      rintro e w' ⟨rfl, rfl⟩
      rw [HTK.out]
      go_wp2_with (fail)
      go_ret
      exact HF.out
    | some p =>
      have HTK := Lib.hid e
      have hne : (p == o) = false := by
        have : p ≠ o := fun e2 => hm (by subst e2; exact tkL_some e)
        simpa using this
      clear e
      go_enter Try.func39, Try.ntmps39
      go_wp2_with (fail)
      refine (missing_any N I.n1).mono ?_
      rintro e w' ⟨rfl, rfl⟩
      go_wp2_with (fail)
      refine (taken6_any N _ hx).mono ?_
      rintro e w' ⟨rfl, rfl⟩
      rw [HTK.out]
      go_wp2_with (fail)
      go_ret
      exact HF.out
end
end
/-! buddy: how many frames are free; Most of a node. -/
section
open Go.RowKit Go

/-- A load of a whole by its run. -/
theorem wpList_load_run {P : Program} {ops : Array Oper} {rest : List Oper} {o : Oper} {a : Act} {w : World} {Q : Exit → Act → World → Prop} (hgd : o.guard = none) (ty : TypeId) (x : Operand) (ho : o.op = .load ty x)
    {p : Addr} (hx : a.eval x = .pointer (some p)) {v : Value} (hr : (loadVar ty p).run P w = .ok v w) (h : wpList P ops Q rest (a.put o.dst v) w) : wpList P ops Q (o :: rest) a w :=
  wpList_plain hgd fun _ hK => by
    unfold Oper.wp execOp
    simp only [ho, hx, Instr.loadAt, Instr.sureAddr, Sem.run_bind, Sem.run_pure, Result.andThen_ok, hr]
    exact hK _ _ h

/-- So many frames. -/
def freeT : List (Int × Int) → Nat
  | [] => 0
  | p :: r => 2 ^ p.2.toNat + freeT r
theorem freeT_append : ∀ L M : List (Int × Int), freeT (L ++ M) = freeT L + freeT M
  | [], M => by simp [freeT]
  | p :: r, M => by rw [List.cons_append, freeT, freeT, freeT_append r M, Nat.add_assoc]
def cntO (L : List (Int × Int)) (k : Nat) : Nat := (L.filter fun p => p.2 == (k : Int)).length
def freeU (L : List (Int × Int)) (k : Nat) : Nat := freeT (L.filter fun p => decide (p.2 < (k : Int)))
theorem freeU_next : ∀ (L : List (Int × Int)) (k : Nat), (∀ p ∈ L, ∃ a o : Nat, p = ((a : Int), (o : Int))) → freeU L (k + 1) = freeU L k + cntO L k * 2 ^ k
  | [], k, _ => by simp [freeU, cntO, freeT]
  | p :: r, k, h => by
    have ih := freeU_next r k (fun q hq => h q (List.mem_cons_of_mem _ hq))
    obtain ⟨a, o, rfl⟩ := h p List.mem_cons_self
    unfold freeU cntO at *
    by_cases e : o = k
    · subst e
      have h1 : decide ((o : Int) < ((o + 1 : Nat) : Int)) = true := decide_eq_true (by omega)
      have h2 : decide ((o : Int) < (o : Int)) = false := decide_eq_false (by omega)
      have h3 : ((o : Int) == (o : Int)) = true := by simp
      simp only [List.filter_cons, h1, h2, h3, if_true, Bool.false_eq_true, if_false, freeT, List.length_cons, Int.toNat_natCast]
      rw [ih, Nat.add_mul, Nat.one_mul]
      omega
    · have h3 : ((o : Int) == (k : Int)) = false := beq_false_of_ne (by omega)
      by_cases hlt : o < k
      · have h1 : decide ((o : Int) < ((k + 1 : Nat) : Int)) = true := decide_eq_true (by omega)
        have h2 : decide ((o : Int) < (k : Int)) = true := decide_eq_true (by omega)
        simp only [List.filter_cons, h1, h2, h3, if_true, Bool.false_eq_true, if_false, freeT]
        rw [ih]
        omega
      · have h1 : decide ((o : Int) < ((k + 1 : Nat) : Int)) = false := decide_eq_false (by omega)
        have h2 : decide ((o : Int) < (k : Int)) = false := decide_eq_false (by omega)
        simp only [List.filter_cons, h1, h2, h3, Bool.false_eq_true, if_false]
        rw [ih]
theorem freeU_all {L : List (Int × Int)} (h : ∀ p ∈ L, ∃ a o : Nat, p = ((a : Int), (o : Int)) ∧ o ≤ 10) : freeU L 11 = freeT L := by
  unfold freeU
  rw [List.filter_eq_self.2]
  intro p hp
  obtain ⟨a, o, rfl, ho⟩ := h p hp
  exact decide_eq_true (show (o : Int) < ((11 : Nat) : Int) by omega)
theorem rising_nodup {L : List (Int × Int)} (h : Rising L) : L.Nodup := h.imp fun {p q} hpq e => by subst e; omega
/-- Of the keys of a map, so many. -/
theorem cnt_keys {L : List (Int × Int)} (hR : Rising L) {k : Nat} {ls : List Int} (h1 : ls.Nodup) (h2 : ∀ x, x ∈ ls ↔ (frL L k x).isSome = true) : ls.length = cntO L k := by
  have hp : ls.Perm ((L.filter fun p => p.2 == (k : Int)).map (·.1)) := by
    refine (List.perm_ext_iff_of_nodup h1 ?_).2 fun x => ?_
    · exact List.Pairwise.map _ (fun {p q} h e => by
        have h : p.1 < q.1 := h
        omega) (List.Pairwise.filter _ hR)
    · rw [h2 x, frL_some, List.mem_map]
      constructor
      · intro h
        exact ⟨_, List.mem_filter.2 ⟨h, by simp⟩, rfl⟩
      · rintro ⟨⟨y, o⟩, h, rfl⟩
        obtain ⟨h3, h4⟩ := List.mem_filter.1 h
        have h4 : o = (k : Int) := by simpa using h4
        subst h4
        exact h3
  rw [hp.length_eq, List.length_map]; rfl

section
variable {w : World} {d n : Nat} {mb : Nat → Nat} {tb : Nat} {L T : List (Int × Int)}
/-- The array of its maps, as a value. -/
theorem load_maps (N : NodeAt w d n mb tb L T) : ∃ A : Array Value, (loadVar 88 ⟨d, 1, none⟩).run Try.prog w = .ok (.agg A) w ∧ A.size = 11 ∧ ∀ i, i < 11 → A[i]? = some (.map (some (mb i))) := by
  refine ⟨((List.range 11).map fun i => Value.map (some (mb i))).toArray, run_loadVar_mid (P := Try.prog) w d 1 88 _ _ (fun j v hj => ?_) Try.underlying88 rfl (by
    rw [List.length_map, List.length_range]; kernel_rfl), by simp, fun i hi => by simp [hi]⟩
  have hj2 : j < 11 := by have := (List.getElem?_eq_some_iff.1 hj).1; simpa using this
  rw [List.getElem?_map, List.getElem?_range hj2] at hj
  simp at hj
  subst hj
  exact N.cf hj2
theorem index_maps {A : Array Value} {k : Nat} {v : Value} (hk : (k : Int) < 11) (h : A[k]? = some v) (W : World) : (Instr.index 88 (.agg A) (.int .i64 k)).run Try.prog W = .ok v W := by
  simp [Instr.index, asIntOf, run_underlying Try.underlying88, part, h, go_sem, Result.andThen]
  intro h2
  omega
set_option maxRecDepth 100000 in
set_option maxHeartbeats 1000000 in
theorem free_any (N : NodeAt w d n mb tb L T) (I : Inv n L T) :
    Calls Try.prog 44 #[.pointer (some ⟨d, 0, none⟩)] w fun e w' => e = .returned (.int .i64 (freeT L)) ∧ w = w' := by
  obtain ⟨A, hA, hAs, hAi⟩ := load_maps N
  have HN := Lib.hid N
  have HA := Lib.hid hA
  have HAI := Lib.hid hAi
  clear hA hAi
  go_enter Try.func44, Try.ntmps44
  go_wp2_with (refine wpList_load_run rfl 88 _ rfl rfl HA.out ?_)
  go_loop [3, 12] (fun t i => ∃ k acc : Nat, t = .int .i64 acc ∧ i = .int .i64 k ∧ k ≤ 11 ∧ acc ≤ k * 200000 ∧ Hid (acc = freeU L k)) (fun _ i => 11 - (intOf i).toNat)
  case atStart => exact ⟨0, 0, rfl, rfl, by decide, by decide, by
    unfold freeU
    rw [List.filter_eq_nil_iff.2]
    · rfl
    · intro p hp
      have := (I.nat p hp)
      obtain ⟨a, o, rfl⟩ := this
      simp⟩
  case round =>
    obtain ⟨k, acc, rfl, rfl, hk, hacc, HE⟩ := hrel
    by_cases hlt : k < 11
    · have hAk := HAI.out k hlt
      have hF := HN.out.free k hlt
      have hlt2 : (k : Int) < 11 := by omega
      have hix := index_maps hlt2 hAk
      have hcb : cntO L k ≤ 128 := by
        obtain ⟨l, h1, h2, h3⟩ := hF.count (m := 128) (fun x hx => HN.out.bnd _ (frL_some.1 hx))
        rw [← cnt_keys I.ris h1 h2]
        exact h3
      obtain ⟨p, hp⟩ : ∃ p, 2 ^ k = p := ⟨_, rfl⟩
      have hp2 := two_pow_small (k := k) (by omega)
      rw [hp] at hp2
      obtain ⟨p1, p2⟩ := hp2
      have HP := Lib.hid hp
      have hmul : cntO L k * p ≤ 131072 := Nat.mul_le_mul hcb p2
      have HE2 := Lib.hid (show acc + cntO L k * p = freeU L (k + 1) by rw [freeU_next L k I.nat, ← HE.out, hp])
      have HCK := Lib.hid (fun (ls : List Int) (h1 : ls.Nodup) (h2 : ∀ x, x ∈ ls ↔ (frL L k x).isSome = true) => cnt_keys I.ris h1 h2)
      generalize cntO L k = c at *
      clear hp HE
      go_wp2_with (refine wpList_len_fmap rfl _ _ rfl 3 106 Try.underlying87 EU (mb k) (frL L k) rfl hF ?_; intro ls hl1 hl2; rw [HCK.out ls hl1 hl2]; clear hl1 hl2)
      refine (size_of (k := k) rfl (by omega) HP.out _).mono ?_
      rintro e w' ⟨rfl, rfl⟩
      have hcast : ((c : Int) * (p : Int)) = ((c * p : Nat) : Int) := (Int.natCast_mul c p).symm
      generalize hcp : c * p = q at *
      go_wp2_with (fail)
      refine ⟨⟨k + 1, acc + q, by go_num, by go_num, by omega, by omega, HE2⟩, ?_⟩
      simp [intOf]; omega
    · obtain rfl : k = 11 := by omega
      rw [show ((11 : Nat) : Int) = 11 from rfl]
      have HF := Lib.hid (show acc = freeT L by rw [HE.out, freeU_all I.ten])
      go_wp2_with (fail)
      go_ret
      exact ⟨by rw [← HF.out]; rfl, rfl⟩
/-- The greatest order of a free block. -/
def MstL (L : List (Int × Int)) (x : Int) : Prop := MstE (fun o => ∃ y, (y, (o : Int)) ∈ L) x
theorem mst_one {L : List (Int × Int)} {x y : Int} (h1 : MstL L x) (h2 : MstL L y) : x = y := by
  rcases h1 with ⟨rfl, h1⟩ | ⟨o, rfl, ho, hE, h1⟩
  · rcases h2 with ⟨rfl, _⟩ | ⟨o, rfl, ho, hE, _⟩
    · rfl
    · exact absurd hE (h1 o ho)
  · rcases h2 with ⟨rfl, h2⟩ | ⟨p, rfl, hp, hE2, h2⟩
    · exact absurd hE (h2 o ho)
    · by_cases hlt : o < p
      · exact absurd hE2 (h1 p hp hlt)
      · by_cases hlt2 : p < o
        · exact absurd hE (h2 o ho hlt2)
        · have : o = p := by omega
          rw [this]
end
end
/-! buddy: how many frames are free, as blocks come and go; a node is told by what is taken. Pure. -/
section
theorem freeT_perm {L M : List (Int × Int)} (h : L.Perm M) : freeT L = freeT M := by
  induction h with
  | nil => rfl
  | cons x _ ih => show _ + _ = _ + _; rw [ih]
  | swap x y l => show _ + (_ + _) = _ + (_ + _); omega
  | trans _ _ h1 h2 => exact h1.trans h2
theorem ins_perm (x : Int × Int) : ∀ L : List (Int × Int), (insL x L).Perm (x :: L)
  | [] => List.Perm.refl _
  | y :: r => by
    unfold insL
    split
    · exact List.Perm.refl _
    · exact ((ins_perm x r).cons y).trans (List.Perm.swap x y r)
theorem freeT_put (L : List (Int × Int)) (x : Int × Int) : freeT (putL L x) = freeT L + 2 ^ x.2.toNat := by
  rw [putL_ins, freeT_perm (ins_perm x L)]
  show _ + _ = _ + _
  omega
theorem freeT_drop {L : List (Int × Int)} (h : L.Nodup) {x : Int × Int} (hx : x ∈ L) : freeT (dropL L x) + 2 ^ x.2.toNat = freeT L := by
  have e : dropL L x = L.erase x := by
    unfold dropL
    rw [h.erase_eq_filter]
    refine List.filter_congr fun y _ => ?_
    simp [bne]
  rw [e, freeT_perm (List.perm_cons_erase hx)]
  show _ + _ = _ + _
  omega
theorem freeT_split (high : Bool) (od : Nat) : ∀ (d : Nat) (L : List (Int × Int)) (x : Int), freeT (splitL high od d L x).1 + 2 ^ od = freeT L + 2 ^ (od + d)
  | 0, L, x => rfl
  | d + 1, L, x => by
    have hp : 2 ^ (od + (d + 1)) = 2 ^ (od + d) + 2 ^ (od + d) := by rw [← Nat.add_assoc, Nat.pow_succ]; omega
    cases high with
    | true =>
      show freeT (if true = true then splitL true od d (putL L (x, ((od + d : Nat) : Int))) (x + ((2 ^ (od + d) : Nat) : Int)) else _).1 + _ = _
      rw [if_pos rfl, freeT_split true od d, freeT_put, hp]
      show _ + 2 ^ ((od + d : Nat) : Int).toNat + _ = _
      rw [Int.toNat_natCast]; omega
    | false =>
      show freeT (if false = true then _ else splitL false od d (putL L (x + ((2 ^ (od + d) : Nat) : Int), ((od + d : Nat) : Int))) x).1 + _ = _
      rw [if_neg (by decide), freeT_split false od d, freeT_put, hp]
      show _ + 2 ^ ((od + d : Nat) : Int).toNat + _ = _
      rw [Int.toNat_natCast]; omega
/-- Two lists by rising numbers that have the same are the same. -/
theorem rising_eq : ∀ {L M : List (Int × Int)}, Rising L → Rising M → (∀ p, p ∈ L ↔ p ∈ M) → L = M
  | [], [], _, _, _ => rfl
  | [], y :: _, _, _, h => absurd ((h y).2 List.mem_cons_self) List.not_mem_nil
  | x :: _, [], _, _, h => absurd ((h x).1 List.mem_cons_self) List.not_mem_nil
  | x :: r, y :: s, h1, h2, h => by
    obtain ⟨a1, a2⟩ := List.pairwise_cons.1 h1
    obtain ⟨b1, b2⟩ := List.pairwise_cons.1 h2
    have e : x = y := by
      rcases List.mem_cons.1 ((h x).1 List.mem_cons_self) with e | hx
      · exact e
      · rcases List.mem_cons.1 ((h y).2 List.mem_cons_self) with e | hy
        · exact e.symm
        · have := b1 x hx
          have := a1 y hy
          omega
    subst e
    congr 1
    refine rising_eq a2 b2 fun p => ?_
    constructor
    · intro hp
      rcases List.mem_cons.1 ((h p).1 (List.mem_cons_of_mem _ hp)) with e | hq
      · have := a1 p hp
        subst e; omega
      · exact hq
    · intro hp
      rcases List.mem_cons.1 ((h p).2 (List.mem_cons_of_mem _ hp)) with e | hq
      · have := b1 p hp
        subst e; omega
      · exact hq
section
variable {n : Nat} {L T : List (Int × Int)}
/-- What is taken tells what is free. -/
theorem Inv.unique (I : Inv n L T) {M U : List (Int × Int)} (J : Inv n M U) (h : ∀ o a, memL T o a ↔ memL U o a) : L = M := by
  refine rising_eq I.ris J.ris fun p => ?_
  have hu := I.stk.unique J.stk h
  constructor
  · intro hp
    obtain ⟨a, o, rfl⟩ := I.nat p hp
    exact (hu o a).1 hp
  · intro hp
    obtain ⟨a, o, rfl⟩ := J.nat p hp
    exact (hu o a).2 hp
theorem dropL_back {y o : Int} (h : tkL T y = none) : dropL (T ++ [(y, o)]) (y, o) = T := by
  unfold dropL
  rw [List.filter_append, List.filter_eq_self.2, List.filter_cons_of_neg (by simp), List.filter_nil, List.append_nil]
  intro p hp
  have : p ≠ (y, o) := fun e => by subst e; exact tkL_none.1 h o hp
  simpa using this
/-- Take, and give back at once. -/
theorem take_back (I : Inv n L T) {od : Nat} (ho : od ≤ 10) (high : Bool) {x : Int} (hx : MstL L x) :
    ((od : Int) ≤ x ∧ ∃ (y : Nat) (M : List (Int × Int)), takeS L T (od : Int) high = ((y : Int), 0, M, T ++ [((y : Int), (od : Int))]) ∧ freeT M + 2 ^ od = freeT L ∧ giveS M (T ++ [((y : Int), (od : Int))]) (y : Int) (od : Int) = (0, L, T) ∧ Inv n M (T ++ [((y : Int), (od : Int))]) ∧ y < n)
    ∨ (x < (od : Int) ∧ takeS L T (od : Int) high = (0, 6, L, T)) := by
  rcases pick_or I od high with ⟨a, q, hp⟩ | hp
  · obtain ⟨y, h1, h2, J, hyn, hnone, hoq, hq, _, _⟩ := inv_take I ho hp
    refine .inl ⟨?_, y, _, h2, ?_, ?_, J, hyn⟩
    · rcases hx with ⟨rfl, h⟩ | ⟨p, rfl, hp2, _, h⟩
      · exact absurd ⟨(a : Int), hp.1⟩ (h q (by omega))
      · by_cases hlt : p < q
        · exact absurd ⟨(a : Int), hp.1⟩ (h q (by omega) hlt)
        · omega
    · rw [freeT_split, show od + (q - od) = q by omega]
      have := freeT_drop (rising_nodup I.ris) hp.1
      simpa using this
    · have hm : ((y : Int), (od : Int)) ∈ T ++ [((y : Int), (od : Int))] := by simp
      obtain ⟨K, _, _, e⟩ := J.give hm
      rw [e, dropL_back hnone]
      rw [dropL_back hnone] at K
      rw [K.unique I (fun o a => Iff.rfl)]
  · refine .inr ⟨?_, ?_⟩
    · rcases hx with ⟨rfl, _⟩ | ⟨p, rfl, _, ⟨y, hy⟩, _⟩
      · omega
      · have : ¬ (od : Int) ≤ (p : Int) := hp _ hy
        omega
    · unfold takeS
      rw [if_pos ⟨by omega, by omega⟩, pick_none hp, if_pos (by decide)]
theorem freeT_bound (I : Inv n L T) : freeT L ≤ 300000 := by
  have h : ∀ M : List (Int × Int), (∀ p ∈ M, ∃ a o : Nat, p = ((a : Int), (o : Int)) ∧ o ≤ 10) → freeT M ≤ M.length * 1024 := by
    intro M
    induction M with
    | nil => intro _; exact Nat.zero_le _
    | cons p r ih =>
      intro h
      obtain ⟨a, o, rfl, ho⟩ := h p List.mem_cons_self
      have := ih (fun q hq => h q (List.mem_cons_of_mem _ hq))
      have h2 := (two_pow_small ho).2
      show 2 ^ (o : Int).toNat + freeT r ≤ (r.length + 1) * 1024
      rw [Int.toNat_natCast]; omega
  have h1 := h L I.ten
  have h2 : L.length ≤ 128 := by
    have := nodup_short 128 (L.map (·.1)) (List.Pairwise.map _ (fun {p q} h e => by
      have h : p.1 < q.1 := h
      omega) I.ris) (fun x hx => by
      obtain ⟨p, hp, rfl⟩ := List.mem_map.1 hx
      obtain ⟨a, o, rfl⟩ := I.nat p hp
      have h3 := (I.stk.al o a (.inl hp)).2.2
      have hpw := Nat.one_le_two_pow (n := o)
      have := I.n2
      exact ⟨by show (0 : Int) ≤ (a : Int); omega, by show (a : Int) < ((128 : Nat) : Int); omega⟩)
    simpa using this
  omega
end
section
variable {n : Nat} {L T : List (Int × Int)}
theorem Inv.len (I : Inv n L T) : L.length ≤ 128 := by
  have := nodup_short 128 (L.map (·.1)) (List.Pairwise.map _ (fun {p q} h e => by
    have h : p.1 < q.1 := h
    omega) I.ris) (fun x hx => by
    obtain ⟨p, hp, rfl⟩ := List.mem_map.1 hx
    obtain ⟨a, o, rfl⟩ := I.nat p hp
    have h3 := (I.stk.al o a (.inl hp)).2.2
    have hpw := Nat.one_le_two_pow (n := o)
    have := I.n2
    exact ⟨by show (0 : Int) ≤ (a : Int); omega, by show (a : Int) < ((128 : Nat) : Int); omega⟩)
  simpa using this
theorem Inv.good (I : Inv n L T) : GoodL L := fun p hp => by
  obtain ⟨a, o, rfl⟩ := I.nat p hp
  obtain ⟨h1, _, h3⟩ := I.stk.al o a (.inl hp)
  have := I.n2
  exact ⟨by show (0 : Int) ≤ (a : Int); omega, by show (a : Int) + ((2 ^ ((o : Int).toNat) : Nat) : Int) ≤ 4000; rw [Int.toNat_natCast]; omega, by show (0 : Int) ≤ (o : Int); omega, by show (o : Int) ≤ 10; omega⟩
theorem Inv.goodT (I : Inv n L T) : GoodL T := fun p hp => by
  obtain ⟨a, o, rfl⟩ := I.natT p hp
  obtain ⟨h1, _, h3⟩ := I.stk.al o a (.inr hp)
  have := I.n2
  exact ⟨by show (0 : Int) ≤ (a : Int); omega, by show (a : Int) + ((2 ^ ((o : Int).toNat) : Nat) : Int) ≤ 4000; rw [Int.toNat_natCast]; omega, by show (0 : Int) ≤ (o : Int); omega, by show (o : Int) ≤ 10; omega⟩
/-- What Take comes to. -/
theorem take_cases (I : Inv n L T) (order : Int) (high : Bool) :
    (∃ y M, takeS L T order high = (y, 0, M, T ++ [(y, order)]) ∧ (y, order) ∉ T ∧ 0 ≤ y ∧ y < 128 ∧ 0 ≤ order ∧ order ≤ 10) ∨ ∃ k, k ≠ 0 ∧ takeS L T order high = (0, k, L, T) := by
  by_cases ho : 0 ≤ order ∧ order ≤ 10
  · obtain ⟨od, rfl⟩ : ∃ od : Nat, order = od := ⟨order.toNat, by omega⟩
    rcases pick_or I od high with ⟨a, q, hp⟩ | hp
    · obtain ⟨y, _, h2, _, hyn, hnone, _⟩ := inv_take I (by omega) hp
      have := I.n2
      exact .inl ⟨y, _, h2, tkL_none.1 hnone _, by omega, by omega, by omega, by omega⟩
    · refine .inr ⟨6, by decide, ?_⟩
      unfold takeS
      rw [if_pos ho, pick_none hp, if_pos (by decide)]
  · refine .inr ⟨2, by decide, ?_⟩
    unfold takeS
    rw [if_neg ho]
theorem takeS_len (I : Inv n L T) (order : Int) (high : Bool) : (takeS L T order high).2.2.2.length ≤ T.length + 1 := by
  rcases take_cases I order high with ⟨u, M, e, _⟩ | ⟨q, _, e⟩ <;> rw [e] <;> simp
end
section
variable {n r : Nat} {L T M U : List (Int × Int)} {v u : Value} {w W W' : World}
/-- What holds no cells turns. -/
theorem BRef.aside (R : BRef W r n M U v u) {S : Nat → Prop} (ho : Only S W W') (hs : ∀ k A t f, S k → W.heap[k]? = some (.cells A t f) → False) : BRef W' r n M U v u := by
  obtain ⟨a, c, e, hf⟩ := R.fr
  obtain ⟨b, d, e2, ht⟩ := R.tk
  have key : ∀ {g : Option Addr} {K : List (Int × Int)}, RecsAt W (r + 1) g encB 2 K → RecsAt W' (r + 1) g encB 2 K := fun h hp => by
    obtain ⟨g, e, hg, hlt, A, t, hA, hi⟩ := h hp
    exact ⟨g, e, hg, Nat.lt_of_lt_of_le hlt ho.size, A, t, by rw [ho.block g hlt (fun h => hs g _ _ _ h hA)]; exact hA, hi⟩
  refine ⟨?_, ⟨a, c, e, key hf⟩, ⟨b, d, e2, key ht⟩⟩
  obtain ⟨A, t, hA, hi⟩ := R.row
  exact ⟨A, t, by rw [ho.block r (Array.getElem?_eq_some_iff.1 hA).1 (fun h => hs r _ _ _ h hA)]; exact hA, hi⟩
theorem BRef.atF {a0 : Option Addr} {c0 : Nat} (R : BRef w r n L T (.slice a0 L.length c0) u) (j : Nat) (hj : j < L.length) : ∃ g, a0 = some ⟨g, 0, none⟩ ∧ w.cell? ⟨g, j * 2, none⟩ = some (.int .i64 L[j].1) ∧ w.cell? ⟨g, j * 2 + 1, none⟩ = some (.int .i64 L[j].2) := by
  obtain ⟨a, c, e, hF⟩ := R.fr
  injection e with e1 _ _
  subst e1
  obtain ⟨g, rfl, _, _, hr⟩ := hF.get encB_len j hj
  exact ⟨g, rfl, hr 0 _ rfl, hr 1 _ rfl⟩
/-- A taken block of the document's. -/
theorem BRef.atT {a0 : Option Addr} {c0 : Nat} (R : BRef W r n M U v (.slice a0 U.length c0)) (j : Nat) (hj : j < U.length) : ∃ g, a0 = some ⟨g, 0, none⟩ ∧ W.cell? ⟨g, j * 2, none⟩ = some (.int .i64 U[j].1) ∧ W.cell? ⟨g, j * 2 + 1, none⟩ = some (.int .i64 U[j].2) := by
  obtain ⟨a, c, e, hF⟩ := R.tk
  injection e with e1 _ _
  subst e1
  obtain ⟨g, rfl, _, _, hr⟩ := hF.get encB_len j hj
  exact ⟨g, rfl, hr 0 _ rfl, hr 1 _ rfl⟩
end
theorem inv_new {n : Nat} (h1 : 1 ≤ n) (h2 : n ≤ 128) : Inv n (newL n) [] := by
  obtain ⟨S, R, N⟩ := new_stk n
  refine ⟨h1, h2, ?_, R, N, fun p h => absurd h List.not_mem_nil⟩
  have e : (fun _ _ => False) = memL [] := set_eq fun o a => by
    unfold memL
    simp
  rw [← e]
  exact S
theorem Inv.frz {n : Nat} {L T : List (Int × Int)} (I : Inv n L T) {p : Int × Int} (h : p ∈ L) : ∃ a o : Nat, p = ((a : Int), (o : Int)) ∧ o ≤ 10 ∧ a + 2 ^ o ≤ n := by
  obtain ⟨a, o, rfl⟩ := I.nat p h
  obtain ⟨h1, _, h3⟩ := I.stk.al o a (.inl h)
  exact ⟨a, o, rfl, h1, h3⟩
end
/-! zones: the document's own node lists as they lie; first, Free, State. -/
section
open Go.RowKit Go

/-- How many frames a node has. -/
def frN (g : Nat → Int) (i : Nat) : Nat := (g (18 + i)).toNat
theorem nodL_lt (g : Nat → Int) : ∀ k, ∀ x ∈ nodL g k, 0 ≤ x ∧ x < (k : Int)
  | 0, x, h => by cases h
  | k + 1, x, h => by
    rcases List.mem_append.1 h with h | h
    · have := nodL_lt g k x h; omega
    · have := List.eq_of_mem_replicate h; omega
theorem nodL_split (g : Nat → Int) (k : Nat) : ∀ d, ∃ R, nodL g (k + d) = nodL g k ++ R ∧ ∀ x ∈ R, (k : Int) ≤ x
  | 0 => ⟨[], by simp, fun x h => by cases h⟩
  | d + 1 => by
    obtain ⟨R, h1, h2⟩ := nodL_split g k d
    refine ⟨R ++ List.replicate (g (18 + (k + d))).toNat ((k + d : Nat) : Int), ?_, fun x hx => ?_⟩
    · show nodL g (k + d) ++ _ = _
      rw [h1, List.append_assoc]
      rfl
    · rcases List.mem_append.1 hx with hx | hx
      · exact h2 x hx
      · have := List.eq_of_mem_replicate hx; omega
/-- The node of a frame is below k just if the frame is one of the first k nodes'. -/
theorem nodL_at (g : Nat → Int) {k N : Nat} (hk : k ≤ N) {j : Nat} (hj : j < (nodL g N).length) : (nodL g N).getD j 0 < (k : Int) ↔ j < (nodL g k).length := by
  obtain ⟨R, h1, h2⟩ := nodL_split g k (N - k)
  rw [show k + (N - k) = N by omega] at h1
  rw [List.getD_eq_getElem?_getD]
  by_cases h : j < (nodL g k).length
  · simp only [h, iff_true]
    rw [h1, List.getElem?_append_left h, List.getElem?_eq_getElem h]
    exact (nodL_lt g k _ (List.getElem_mem h)).2
  · simp only [h, iff_false]
    rw [h1] at hj ⊢
    rw [List.getElem?_append_right (by omega)]
    have hl : j - (nodL g k).length < R.length := by rw [List.length_append] at hj; omega
    rw [List.getElem?_eq_getElem hl]
    have := h2 _ (List.getElem_mem hl)
    simp only [Option.getD_some]
    omega
/-- The document's zones: its blocks. -/
structure ZB where
  r : Nat
  rb : Nat
  rn : Nat
  cb : Nat
  cn : Nat
  N : Nat
  bs : Nat → Nat
def ZB.tot (Z : ZB) (g : Nat → Int) : Nat := (nodL g Z.N).length
def zrV (Z : ZB) (g : Nat → Int) (i : Nat) : Value := if i < 94 then .int .i64 (g i) else if i = 94 then .slice (some ⟨Z.rb, 0, none⟩) Z.N Z.cb else .slice (some ⟨Z.rn, 0, none⟩) (Z.tot g) Z.cn
structure ZRef (w : World) (Z : ZB) (g : Nat → Int) (L T : Nat → List (Int × Int)) : Prop where
  row : RowAt w Z.r 96 (zrV Z g)
  lst : RowAt w Z.rb Z.N (fun i => .pointer (some ⟨Z.bs i, 0, none⟩))
  nod : RowAt w Z.rn (Z.tot g) (fun i => .int .i64 ((nodL g Z.N).getD i 0))
  ref : ∀ i, i < Z.N → ∃ v u, BRef w (Z.bs i) (frN g i) (L i) (T i) v u
  inj : ∀ i j, i < Z.N → j < Z.N → Z.bs i = Z.bs j → i = j
  good : Good g
  num : g 0 = (Z.N : Int)
section
variable {w w' : World} {Z : ZB} {g : Nat → Int} {L T : Nat → List (Int × Int)}
theorem ZRef.n8 (R : ZRef w Z g L T) : 1 ≤ Z.N ∧ Z.N ≤ 8 := by
  have h1 := R.good.n1
  have h2 := R.good.n2
  have := R.num
  omega
theorem ZRef.pos (R : ZRef w Z g L T) : ∀ i, i < Z.N → 0 ≤ g (18 + i) ∧ g (18 + i) ≤ 128 := fun i hi => by
  have h := R.good.frames i (by have := R.num; omega)
  omega
theorem ZRef.len (R : ZRef w Z g L T) {k : Nat} (hk : k ≤ Z.N) : ((nodL g k).length : Int) = sumF g k ∧ (nodL g k).length ≤ 1024 ∧ (nodL g k).length ≤ Z.tot g := by
  have h1 := frL_length g k (fun i hi => (R.pos i (by omega)).1)
  have h2 := sumF_bd g k (fun i hi => R.pos i (by omega))
  have h3 := R.n8
  obtain ⟨Q, e, _⟩ := nodL_split g k (Z.N - k)
  rw [show k + (Z.N - k) = Z.N by omega] at e
  have h4 : Z.tot g = (nodL g k).length + Q.length := by unfold ZB.tot; rw [e, List.length_append]
  exact ⟨h1, by omega, by omega⟩
theorem ZRef.later (R : ZRef w Z g L T) (h : Below w.heap.size w w') : ZRef w' Z g L T :=
  ⟨R.row.later h, R.lst.later h, R.nod.later h, fun i hi => by obtain ⟨v, u, hb⟩ := R.ref i hi; exact ⟨v, u, hb.later h⟩, R.inj, R.good, R.num⟩
theorem ZRef.c94 (R : ZRef w Z g L T) : w.cell? ⟨Z.r, 94, none⟩ = some (.slice (some ⟨Z.rb, 0, none⟩) Z.N Z.cb) := R.row.cell 94 (by decide)
theorem ZRef.c95 (R : ZRef w Z g L T) : w.cell? ⟨Z.r, 95, none⟩ = some (.slice (some ⟨Z.rn, 0, none⟩) (Z.tot g) Z.cn) := R.row.cell 95 (by decide)
theorem ZRef.cg (R : ZRef w Z g L T) (i : Nat) (h : i < 94) : w.cell? ⟨Z.r, i, none⟩ = some (.int .i64 (g i)) := by
  have e := R.row.cell i (by omega)
  unfold zrV at e
  rwa [if_pos h] at e
set_option maxRecDepth 100000 in
theorem zfirst_any (R : ZRef w Z g L T) (k : Nat) (hk : k ≤ Z.N) :
    Calls Try.prog 37 #[.pointer (some ⟨Z.r, 0, none⟩), .int .i64 k] w fun e w' => e = .returned (.int .i64 (sumF g k)) ∧ w = w' := by
  obtain ⟨h1, h2, h3⟩ := R.len hk
  have HR := Lib.hid R
  have HS := Lib.hid h1
  clear h1
  go_enter Try.func37, Try.ntmps37
  go_wp2_with (fail)
  go_loop [5] (fun i => ∃ j : Nat, j ≤ (nodL g k).length ∧ i = .int .i64 j) (fun i => (nodL g k).length - (intOf i).toNat)
  case atStart => exact ⟨0, Nat.zero_le _, rfl⟩
  case round =>
    obtain ⟨j, hj, rfl⟩ := hrel
    have c95 := HR.out.c95
    by_cases hlt : j < (nodL g k).length
    · have hjt : (j : Int) < (Z.tot g : Int) := by omega
      have cj := HR.out.nod.cell j (by omega)
      have hx : (nodL g Z.N).getD j 0 < (k : Int) := (nodL_at g hk (by unfold ZB.tot at h3; omega)).2 hlt
      generalize (nodL g Z.N).getD j 0 = x at cj hx
      generalize (nodL g k).length = m at *
      go_wp2_with (fail)
      go_round
      case rel => exact ⟨j + 1, by omega, by go_num⟩
      case measure => simp [intOf]; omega
    · obtain rfl : j = (nodL g k).length := by omega
      by_cases ht : (nodL g k).length < Z.tot g
      · have hx : ¬ (nodL g Z.N).getD (nodL g k).length 0 < (k : Int) := fun h => by
          have := (nodL_at g hk ht).1 h
          omega
        have cj := HR.out.nod.cell (nodL g k).length ht
        generalize (nodL g Z.N).getD (nodL g k).length 0 = x at cj hx
        generalize (nodL g k).length = m at *
        have hjt : (m : Int) < (Z.tot g : Int) := by omega
        go_wp2_with (fail)
        go_ret
        exact ⟨by rw [← HS.out]; rfl, rfl⟩
      · generalize (nodL g k).length = m at *
        have hjt : ¬ ((m : Int) < (Z.tot g : Int)) := by omega
        go_wp2_with (fail)
        go_ret
        exact ⟨by rw [← HS.out]; rfl, rfl⟩
/-- How many frames of a node are free. -/
def zFree (N : Nat) (L : Nat → List (Int × Int)) (node : Int) : Nat := if 0 ≤ node ∧ node < (N : Int) then freeT (L node.toNat) else 0
theorem ZRef.cb (R : ZRef w Z g L T) {k : Nat} (hk : k < Z.N) : w.cell? ⟨Z.rb, k, none⟩ = some (.pointer (some ⟨Z.bs k, 0, none⟩)) := R.lst.cell k hk
theorem freeT_take {M : List (Int × Int)} {j : Nat} (h : j < M.length) : freeT (M.take (j + 1)) = freeT (M.take j) + 2 ^ M[j].2.toNat := by
  rw [List.take_succ_eq_append_getElem h, freeT_append]
  simp [freeT]
theorem freeT_take_le (M : List (Int × Int)) (j : Nat) : freeT (M.take j) ≤ freeT M := by
  have h := freeT_append (M.take j) (M.drop j)
  rw [List.take_append_drop] at h
  omega
set_option maxRecDepth 100000 in
set_option maxHeartbeats 1000000 in
theorem zfree_any (R : ZRef w Z g L T) (I : ∀ i, i < Z.N → Inv (frN g i) (L i) (T i)) (node : Int) :
    Calls Try.prog 29 #[.pointer (some ⟨Z.r, 0, none⟩), .int .i64 node] w fun e w' => e = .returned (.int .i64 (zFree Z.N L node)) ∧ w = w' := by
  have c94 := R.c94
  by_cases h0 : node < 0
  · have hz : zFree Z.N L node = 0 := by unfold zFree; rw [if_neg (by omega)]
    rw [hz]
    clear hz
    go_enter Try.func29, Try.ntmps29
    go_wp2_with (fail)
    go_ret
    exact ⟨rfl, rfl⟩
  · by_cases h1 : node < (Z.N : Int)
    · obtain ⟨k, rfl⟩ : ∃ k : Nat, node = k := ⟨node.toNat, by omega⟩
      have hk : k < Z.N := by omega
      have hz : zFree Z.N L (k : Int) = freeT (L k) := by unfold zFree; rw [if_pos (by omega), Int.toNat_natCast]
      rw [hz]
      clear hz
      have h2 : ¬ ((Z.N : Int) ≤ (k : Int)) := by omega
      have ck := R.cb hk
      obtain ⟨v, u, B⟩ := R.ref k hk
      obtain ⟨a, c, rfl, _⟩ := B.fr
      have b1 := B.c1
      have HI := Lib.hid (I k hk)
      have HB := Lib.hid B
      have HF := Lib.hid (freeT_bound (I k hk))
      generalize L k = M at *
      generalize Z.bs k = q at *
      clear I R B h0
      go_enter Try.func29, Try.ntmps29
      go_wp2_with (fail)
      go_loop [5, 6] (fun s i => ∃ j : Nat, j ≤ M.length ∧ s = .int .i64 (freeT (M.take j)) ∧ i = .int .i64 j) (fun _ i => M.length - (intOf i).toNat)
      case atStart => exact ⟨0, Nat.zero_le _, rfl, rfl⟩
      case round =>
        obtain ⟨j, hj, rfl, rfl⟩ := hrel
        by_cases hlt : j < M.length
        · have hltI : (j : Int) < (M.length : Int) := by omega
          obtain ⟨gb, rfl, d0, d1⟩ := HB.out.atF j hlt
          obtain ⟨x, o, hx, ho⟩ := HI.out.ten _ (List.getElem_mem hlt)
          rw [hx] at d0 d1
          dsimp only at d0 d1
          obtain ⟨p, hp⟩ : ∃ p, 2 ^ o = p := ⟨_, rfl⟩
          have HP := Lib.hid hp
          have HT := Lib.hid (show freeT (M.take (j + 1)) = freeT (M.take j) + p by rw [freeT_take hlt, hx, Int.toNat_natCast, hp])
          have hbd : freeT (M.take j) + p ≤ 300000 := by
            have h1 := HT.out
            have h2 := freeT_take_le M (j + 1)
            have h3 := HF.out
            omega
          have hml : M.length ≤ 128 := HI.out.len
          clear hx hp
          generalize freeT (M.take j) = s at *
          go_wp2_with (refine wpList_shl1 rfl _ _ _ _ rfl .u64 o p ho HP.out rfl rfl ?_)
          go_round
          case rel => exact ⟨j + 1, hlt, by rw [HT.out]; go_num, by go_num⟩
          case measure => simp [intOf]; omega
        · obtain rfl : j = M.length := by omega
          rw [List.take_length]
          go_wp2_with (fail)
          go_ret
          exact ⟨rfl, rfl⟩
    · have hz : zFree Z.N L node = 0 := by unfold zFree; rw [if_neg (by omega)]
      rw [hz]
      clear hz
      have h2 : (Z.N : Int) ≤ node := by omega
      go_enter Try.func29, Try.ntmps29
      go_wp2_with (fail)
      go_ret
      exact ⟨rfl, rfl⟩
/-- How a node is off. -/
def zState (g : Nat → Int) (N : Nat) (L : Nat → List (Int × Int)) (node : Int) : Int :=
  if 0 ≤ node ∧ node < (N : Int) then (if (zFree N L node : Int) ≤ g 91 then 0 else if (zFree N L node : Int) ≤ g 92 then 1 else if (zFree N L node : Int) ≤ g 93 then 2 else 3) else 0
set_option maxRecDepth 100000 in
set_option maxHeartbeats 1000000 in
theorem zstate_any (R : ZRef w Z g L T) (I : ∀ i, i < Z.N → Inv (frN g i) (L i) (T i)) (node : Int) :
    Calls Try.prog 30 #[.pointer (some ⟨Z.r, 0, none⟩), .int .i64 node] w fun e w' => e = .returned (.int .i64 (zState g Z.N L node)) ∧ w = w' := by
  have c94 := R.c94
  have c91 := R.cg 91 (by decide)
  have c92 := R.cg 92 (by decide)
  have c93 := R.cg 93 (by decide)
  have HF := zfree_any R I node
  by_cases h0 : node < 0
  · have hz : zState g Z.N L node = 0 := by unfold zState; rw [if_neg (by omega)]
    rw [hz]
    generalize zFree Z.N L node = f at *
    clear hz I R
    go_enter Try.func30, Try.ntmps30
    go_wp2_with (fail)
    refine HF.mono ?_
    rintro e w' ⟨rfl, rfl⟩
    go_wp2_with (fail)
    go_ret
    exact ⟨rfl, rfl⟩
  · by_cases h1 : node < (Z.N : Int)
    · have h2 : ¬ ((Z.N : Int) ≤ node) := by omega
      have hz : zState g Z.N L node = if (zFree Z.N L node : Int) ≤ g 91 then 0 else if (zFree Z.N L node : Int) ≤ g 92 then 1 else if (zFree Z.N L node : Int) ≤ g 93 then 2 else 3 := by
        unfold zState; rw [if_pos (by omega)]
      rw [hz]
      generalize zFree Z.N L node = f at *
      clear hz I R
      by_cases f1 : (f : Int) ≤ g 91
      · rw [if_pos f1]
        go_enter Try.func30, Try.ntmps30
        go_wp2_with (fail)
        refine HF.mono ?_
        rintro e w' ⟨rfl, rfl⟩
        go_wp2_with (fail)
        go_ret
        exact ⟨rfl, rfl⟩
      · rw [if_neg f1]
        by_cases f2 : (f : Int) ≤ g 92
        · rw [if_pos f2]
          go_enter Try.func30, Try.ntmps30
          go_wp2_with (fail)
          refine HF.mono ?_
          rintro e w' ⟨rfl, rfl⟩
          go_wp2_with (fail)
          go_ret
          exact ⟨rfl, rfl⟩
        · rw [if_neg f2]
          by_cases f3 : (f : Int) ≤ g 93
          · rw [if_pos f3]
            go_enter Try.func30, Try.ntmps30
            go_wp2_with (fail)
            refine HF.mono ?_
            rintro e w' ⟨rfl, rfl⟩
            go_wp2_with (fail)
            go_ret
            exact ⟨rfl, rfl⟩
          · rw [if_neg f3]
            go_enter Try.func30, Try.ntmps30
            go_wp2_with (fail)
            refine HF.mono ?_
            rintro e w' ⟨rfl, rfl⟩
            go_wp2_with (fail)
            go_ret
            exact ⟨rfl, rfl⟩
    · have h2 : (Z.N : Int) ≤ node := by omega
      have hz : zState g Z.N L node = 0 := by unfold zState; rw [if_neg (by omega)]
      rw [hz]
      generalize zFree Z.N L node = f at *
      clear hz I R
      go_enter Try.func30, Try.ntmps30
      go_wp2_with (fail)
      refine HF.mono ?_
      rintro e w' ⟨rfl, rfl⟩
      go_wp2_with (fail)
      go_ret
      exact ⟨rfl, rfl⟩
end
end
/-! zones: the document's TakeOf, Take, Give. -/
section
open Go.RowKit Go

def updN {α : Type} (f : Nat → α) (k : Nat) (x : α) (i : Nat) : α := if i = k then x else f i
theorem updN_same {α : Type} (f : Nat → α) (k : Nat) (x : α) : updN f k x k = x := by unfold updN; rw [if_pos rfl]
theorem updN_other {α : Type} (f : Nat → α) {k i : Nat} (h : i ≠ k) (x : α) : updN f k x i = f i := by unfold updN; rw [if_neg h]
theorem updN_self {α : Type} (f : Nat → α) (k : Nat) : updN f k (f k) = f := by
  funext i
  unfold updN
  split
  · rename_i h; rw [h]
  · rfl
/-- What lies in a block tells it from another one. -/
theorem block_ne {w : World} {a b o : Nat} {x y : Value} (h1 : w.cell? ⟨a, o, none⟩ = some x) (h2 : w.cell? ⟨b, o, none⟩ = some y) (h : x ≠ y) : a ≠ b := fun e => by
  subst e
  rw [h1] at h2
  injection h2 with h2
  exact h h2
section
variable {w w' : World} {r r' n n' : Nat} {L T L' T' : List (Int × Int)} {v u v' u' : Value}
theorem BRef.one (R : BRef w r n L T v u) : ∃ a l c, w.cell? ⟨r, 1, none⟩ = some (.slice a l c) := by
  obtain ⟨a, c, rfl, _⟩ := R.fr
  exact ⟨a, _, c, R.c1⟩
/-- Another node of the document's turns. -/
theorem BRef.apart (R : BRef w r n L T v u) (R' : BRef w r' n' L' T' v' u') (hne : r ≠ r') (ho : Only (Eq r') w w') : BRef w' r n L T v u := by
  obtain ⟨a', l', c', h1⟩ := R'.one
  have key : ∀ {a : Option Addr} {M : List (Int × Int)}, RecsAt w (r + 1) a encB 2 M → RecsAt w' (r + 1) a encB 2 M := fun {a M} hM => by
    refine RecsAt.aside hM ho fun g hg hp => ?_
    obtain ⟨g2, e2, _, _, hr⟩ := hM.get encB_len 0 hp
    rw [hg] at e2
    injection e2 with e2
    injection e2 with e2
    subst e2
    have h2 := hr 1 _ rfl
    exact (block_ne h1 h2 (fun e => by cases e))
  obtain ⟨a, c, e, hf⟩ := R.fr
  obtain ⟨b, d, e2, ht⟩ := R.tk
  exact ⟨R.row.only ho (fun e => hne e.symm), ⟨a, c, e, key hf⟩, ⟨b, d, e2, key ht⟩⟩
end
/-- The blocks of the document's nodes. -/
def ZB.own (Z : ZB) (k : Nat) : Prop := ∃ i, i < Z.N ∧ k = Z.bs i
section
variable {w w' : World} {Z : ZB} {g : Nat → Int} {L T : Nat → List (Int × Int)}
theorem ZRef.turn (R : ZRef w Z g L T) {k : Nat} (hk : k < Z.N) {M U : List (Int × Int)} {v u : Value} (B : BRef w' (Z.bs k) (frN g k) M U v u) (ho : Only (Eq (Z.bs k)) w w') : ZRef w' Z g (updN L k M) (updN T k U) := by
  obtain ⟨v0, u0, B0⟩ := R.ref k hk
  obtain ⟨a, l, c, h1⟩ := B0.one
  have h0 := B0.c0
  have h8 := R.n8
  have e1 : Z.bs k ≠ Z.r := block_ne h1 (R.cg 1 (by decide)) (fun e => by cases e)
  have e2 : Z.bs k ≠ Z.rb := block_ne h0 (R.cb (k := 0) (by omega)) (fun e => by cases e)
  have ht : 1 < Z.tot g := by
    have h2 := R.len (k := 1) (by omega)
    have h3 := R.good.frames 0 (by have := R.num; omega)
    have h4 : sumF g 1 = g 18 := by simp [sumF]
    have h5 : g (18 + 0) = g 18 := rfl
    omega
  have e3 : Z.bs k ≠ Z.rn := block_ne h1 (R.nod.cell 1 ht) (fun e => by cases e)
  refine ⟨R.row.only ho e1, R.lst.only ho e2, R.nod.only ho e3, fun i hi => ?_, R.inj, R.good, R.num⟩
  by_cases e : i = k
  · subst e
    rw [updN_same, updN_same]
    exact ⟨_, _, B⟩
  · rw [updN_other L e, updN_other T e]
    obtain ⟨v1, u1, B1⟩ := R.ref i hi
    exact ⟨v1, u1, B1.apart B0 (fun h => e (R.inj i k hi hk h)) ho⟩
/-- What lies beside the nodes is none of them. -/
theorem ZRef.aside (R : ZRef w Z g L T) : ¬ Z.own Z.r ∧ ¬ Z.own Z.rb ∧ ¬ Z.own Z.rn := by
  have h8 := R.n8
  have ht : 1 < Z.tot g := by
    have h2 := R.len (k := 1) (by omega)
    have h3 := R.good.frames 0 (by have := R.num; omega)
    have h4 : sumF g 1 = g 18 := by simp [sumF]
    have h5 : g (18 + 0) = g 18 := rfl
    omega
  refine ⟨?_, ?_, ?_⟩
  · rintro ⟨i, hi, e⟩
    obtain ⟨v0, u0, B0⟩ := R.ref i hi
    obtain ⟨a, l, c, h1⟩ := B0.one
    exact block_ne h1 (R.cg 1 (by decide)) (fun e => by cases e) e.symm
  · rintro ⟨i, hi, e⟩
    obtain ⟨v0, u0, B0⟩ := R.ref i hi
    exact block_ne B0.c0 (R.cb (k := 0) (by omega)) (fun e => by cases e) e.symm
  · rintro ⟨i, hi, e⟩
    obtain ⟨v0, u0, B0⟩ := R.ref i hi
    obtain ⟨a, l, c, h1⟩ := B0.one
    exact block_ne h1 (R.nod.cell 1 ht) (fun e => by cases e) e.symm
/-- What TakeOf comes to. -/
def zTakeOf (g : Nat → Int) (N : Nat) (L T : Nat → List (Int × Int)) (node order : Int) (high : Bool) : Int × Int × (Nat → List (Int × Int)) × (Nat → List (Int × Int)) :=
  if 0 ≤ node ∧ node < (N : Int) then
    (if (takeS (L node.toNat) (T node.toNat) order high).2.1 = 0 then sumF g node.toNat + (takeS (L node.toNat) (T node.toNat) order high).1 else 0, (takeS (L node.toNat) (T node.toNat) order high).2.1,
      updN L node.toNat (takeS (L node.toNat) (T node.toNat) order high).2.2.1, updN T node.toNat (takeS (L node.toNat) (T node.toNat) order high).2.2.2)
  else (0, 7, L, T)
/-- A call has told q.1 and q.2.1. -/
def ZPost (w : World) (Z : ZB) (g : Nat → Int) (q : Int × Int × (Nat → List (Int × Int)) × (Nat → List (Int × Int))) (e : Ending) (w' : World) : Prop :=
  e = .returned (.tuple #[.int .i64 q.1, .int .i64 q.2.1]) ∧ ZRef w' Z g q.2.2.1 q.2.2.2 ∧ Only Z.own w w'
set_option maxRecDepth 100000 in
set_option maxHeartbeats 1000000 in
theorem ztakeof_any (R : ZRef w Z g L T) (I : ∀ i, i < Z.N → Inv (frN g i) (L i) (T i)) (hT : ∀ i, i < Z.N → (T i).length ≤ 900) (node order : Int) (high : Bool) :
    Calls Try.prog 16 #[.pointer (some ⟨Z.r, 0, none⟩), .int .i64 node, .int .i64 order, .bool high] w (ZPost w Z g (zTakeOf g Z.N L T node order high)) := by
  have c94 := R.c94
  have HR := Lib.hid R
  by_cases h0 : node < 0
  · have hz : zTakeOf g Z.N L T node order high = (0, 7, L, T) := by unfold zTakeOf; rw [if_neg (by omega)]
    rw [hz]
    clear hz I R
    go_enter Try.func16, Try.ntmps16
    go_wp2_with (fail)
    go_ret2
    exact ⟨rfl, HR.out, Only.refl _ _⟩
  · by_cases h1 : node < (Z.N : Int)
    · obtain ⟨k, rfl⟩ : ∃ k : Nat, node = k := ⟨node.toNat, by omega⟩
      have hk : k < Z.N := by omega
      have h2 : ¬ ((Z.N : Int) ≤ (k : Int)) := by omega
      have ck := R.cb hk
      obtain ⟨v, u, B⟩ := R.ref k hk
      have HB := Lib.hid B
      have IK := I k hk
      have hl := IK.len
      have hlt := hT k hk
      have htk := take_any B (by omega) (by omega) IK.good order high
      have htc := take_cases IK order high
      clear I R h0 B IK
      unfold zTakeOf
      rw [if_pos (by omega), Int.toNat_natCast]
      unfold BTake at htk
      generalize takeS (L k) (T k) order high = q at *
      obtain ⟨q1, q2, q3, q4⟩ := q
      dsimp only at htk htc ⊢
      have HTK := Lib.hid htk
      clear htk
      by_cases hq : q2 = 0
      · subst hq
        have hq1 : 0 ≤ q1 ∧ q1 < 128 := by
          rcases htc with ⟨y, M, e, _, h3, h4, _⟩ | ⟨z, hz, e⟩
          · injection e with e1 _
            omega
          · injection e with _ e1
            injection e1 with e1 _
            exact absurd e1.symm hz
        clear htc
        rw [if_pos rfl]
        go_enter Try.func16, Try.ntmps16
        go_wp2_with (fail)
        refine HTK.out.mono ?_
        rintro e w3 ⟨rfl, v', u', hR, ho⟩
        have HR3 := Lib.hid (HR.out.turn hk hR ho)
        have HO3 := Lib.hid (show Only Z.own w w3 from ho.mono (fun j hj => ⟨k, hk, hj.symm⟩))
        clear hR ho HB ck c94
        have hs := HR3.out.len (k := k) (by omega)
        have hs1 : 0 ≤ sumF g k ∧ sumF g k ≤ 1024 := by omega
        clear hs
        go_wp2_with (fail)
        refine (zfirst_any HR3.out k (by omega)).mono ?_
        rintro e w4 ⟨rfl, rfl⟩
        go_wp2_with (fail)
        go_ret2
        exact ⟨rfl, HR3.out, HO3.out⟩
      · have hqb : (q2 != 0) = true := by simpa using hq
        clear htc
        rw [if_neg hq]
        go_enter Try.func16, Try.ntmps16
        go_wp2_with (fail)
        refine HTK.out.mono ?_
        rintro e w3 ⟨rfl, v', u', hR, ho⟩
        have HR3 := Lib.hid (HR.out.turn hk hR ho)
        have HO3 := Lib.hid (show Only Z.own w w3 from ho.mono (fun j hj => ⟨k, hk, hj.symm⟩))
        clear hR ho HB ck c94
        go_wp2_with (fail)
        go_ret2
        exact ⟨rfl, HR3.out, HO3.out⟩
    · have hz : zTakeOf g Z.N L T node order high = (0, 7, L, T) := by unfold zTakeOf; rw [if_neg (by omega)]
      rw [hz]
      have h2 : (Z.N : Int) ≤ node := by omega
      clear hz I R
      go_enter Try.func16, Try.ntmps16
      go_wp2_with (fail)
      go_ret2
      exact ⟨rfl, HR.out, Only.refl _ _⟩
/-- A number that is no node's. -/
def noNode (N : Nat) (x : Int) : Bool := decide (x < 0) || decide ((N : Int) ≤ x)
theorem noNode_yes {N : Nat} {x : Int} (h : x < 0 ∨ (N : Int) ≤ x) : noNode N x = true := by unfold noNode; simp; exact h
theorem noNode_no {N : Nat} {x : Int} (h1 : 0 ≤ x) (h2 : x < (N : Int)) : noNode N x = false := by unfold noNode; simp; omega
def nodesL (z : Nat → Int) (len : Nat) : List Int := (List.range len).map z
theorem any_at {z : Nat → Int} {len j : Nat} {p : Int → Bool} (hj : j < len) (h : p (z j) = true) : (nodesL z len).any p = true :=
  List.any_eq_true.2 ⟨z j, List.mem_map.2 ⟨j, List.mem_range.2 hj, rfl⟩, h⟩
theorem any_no {z : Nat → Int} {len : Nat} {p : Int → Bool} (h : ∀ i, i < len → p (z i) = false) : (nodesL z len).any p = false := by
  rw [List.any_eq_false]
  intro x hx
  obtain ⟨i, hi, rfl⟩ := List.mem_map.1 hx
  rw [h i (List.mem_range.1 hi)]
  decide
theorem find_at {z : Nat → Int} {len j : Nat} {p : Int → Bool} (hj : j < len) (h : p (z j) = true) (h0 : ∀ i, i < j → p (z i) = false) : (nodesL z len).find? p = some (z j) := by
  rw [List.find?_eq_some_iff_getElem]
  refine ⟨h, j, by simpa [nodesL] using hj, by simp [nodesL], fun i hi => ?_⟩
  simp only [nodesL, List.getElem_map, List.getElem_range]
  rw [h0 i hi]; rfl
theorem find_no {z : Nat → Int} {len : Nat} {p : Int → Bool} (h : ∀ i, i < len → p (z i) = false) : (nodesL z len).find? p = none := by
  rw [List.find?_eq_none]
  intro x hx
  obtain ⟨i, hi, rfl⟩ := List.mem_map.1 hx
  rw [h i (List.mem_range.1 hi)]
  decide
/-- What Take comes to. -/
def zTake (g : Nat → Int) (N : Nat) (L T : Nat → List (Int × Int)) (M : List Int) (floor : Int) (high : Bool) : Int × Int × (Nat → List (Int × Int)) × (Nat → List (Int × Int)) :=
  if M.any (noNode N) = true then (0, 2, L, T)
  else if floor < 0 then (0, 2, L, T)
  else match M.find? (fun x => decide (floor < (zFree N L x : Int))) with
    | some x => zTakeOf g N L T x 0 high
    | none => (0, 6, L, T)
section
variable {N : Nat} {floor : Int} {high : Bool} {z : Nat → Int} {len j : Nat}
theorem zTake_bad (hj : j < len) (h : z j < 0 ∨ (N : Int) ≤ z j) : zTake g N L T (nodesL z len) floor high = (0, 2, L, T) := by
  unfold zTake; rw [if_pos (any_at hj (noNode_yes h))]
theorem zTake_low (h : floor < 0) : zTake g N L T (nodesL z len) floor high = (0, 2, L, T) := by
  unfold zTake
  by_cases hb : (nodesL z len).any (noNode N) = true
  · rw [if_pos hb]
  · rw [if_neg hb, if_pos h]
theorem zTake_at (hok : ∀ i, i < len → 0 ≤ z i ∧ z i < (N : Int)) (hf : ¬ floor < 0) (hj : j < len) (h : floor < (zFree N L (z j) : Int)) (h0 : ∀ i, i < j → ¬ floor < (zFree N L (z i) : Int)) :
    zTake g N L T (nodesL z len) floor high = zTakeOf g N L T (z j) 0 high := by
  unfold zTake
  rw [if_neg (by rw [any_no (fun i hi => noNode_no (hok i hi).1 (hok i hi).2)]; decide), if_neg hf, find_at hj (decide_eq_true h) (fun i hi => decide_eq_false (h0 i hi))]
theorem zTake_none (hok : ∀ i, i < len → 0 ≤ z i ∧ z i < (N : Int)) (hf : ¬ floor < 0) (h0 : ∀ i, i < len → ¬ floor < (zFree N L (z i) : Int)) :
    zTake g N L T (nodesL z len) floor high = (0, 6, L, T) := by
  unfold zTake
  rw [if_neg (by rw [any_no (fun i hi => noNode_no (hok i hi).1 (hok i hi).2)]; decide), if_neg hf, find_no (fun i hi => decide_eq_false (h0 i hi))]
end
set_option maxRecDepth 100000 in
set_option maxHeartbeats 4000000 in
theorem ztake_any (R : ZRef w Z g L T) (I : ∀ i, i < Z.N → Inv (frN g i) (L i) (T i)) (hT : ∀ i, i < Z.N → (T i).length ≤ 900) (a : Option Addr) (len cap : Nat) (z : Nat → Int) (hl : len ≤ 1000) (hZ : IntsIn w a len z) (floor : Int) (high : Bool) :
    Calls Try.prog 14 #[.pointer (some ⟨Z.r, 0, none⟩), .slice a len cap, .int .i64 floor, .bool high] w (ZPost w Z g (zTake g Z.N L T (nodesL z len) floor high)) := by
  have HR := Lib.hid R
  have HI := Lib.hid I
  have HT := Lib.hid hT
  have HZ := Lib.hid hZ
  clear R I hT hZ
  go_enter Try.func14, Try.ntmps14
  go_wp2_with (fail)
  go_loopw [10] (fun i wr => ∃ j : Nat, j ≤ len ∧ i = .int .i64 j ∧ Hid (∀ i, i < j → 0 ≤ z i ∧ z i < (Z.N : Int)) ∧ Below w.heap.size w wr) (fun i _ => len - (intOf i).toNat)
  case atStart => exact ⟨0, Nat.zero_le _, rfl, fun i h => absurd h (Nat.not_lt_zero _), Below.refl _ _⟩
  case round =>
    obtain ⟨j, hj, rfl, HOK, hb⟩ := hrel
    have HB := Lib.hid hb
    clear hb
    by_cases hlt : j < len
    · obtain ⟨b, o, rfl, hbl, hzb, hc⟩ := HZ.out.one j hlt
      have hltI : (j : Int) < (len : Int) := by omega
      have L0 := Lib.hid (show ∀ W, W = wr.drew → (loadVar 3 ⟨b, o + j, none⟩).run Try.prog W = .ok (.int .i64 (z j)) W from fun W hW => run_loadVar_cell (fun _ => by kernel_rfl) (by rw [hW]; exact hc wr HB.out))
      have L1 := Lib.hid (show ∀ W, W = wr.drew → (loadVar 69 ⟨Z.r, 94, none⟩).run Try.prog W = .ok (.slice (some ⟨Z.rb, 0, none⟩) Z.N Z.cb) W from fun W hW => run_loadVar_cell (fun _ => by kernel_rfl) (by rw [hW]; exact (HR.out.later HB.out).c94))
      have HBD := Lib.hid (HB.out.trans ((Below.refl w.heap.size wr).drew))
      by_cases hx0 : z j < 0
      · have HQ := Lib.hid (zTake_bad (g := g) (L := L) (T := T) (N := Z.N) (floor := floor) (high := high) (z := z) hlt (.inl hx0))
        have hd0 : decide (z j < 0) = true := decide_eq_true hx0
        generalize z j = x at L0 hd0
        clear hc hzb hx0
        go_wp2_with (fail)
        refine wp_region_lex1 (fun W => W = wr.drew) [(0, false), (1, false), (2, false), (3, false), (4, false), (5, false), (6, false), (7, false), (8, false), (9, false), (10, false), (11, false), (12, false), (13, false), (14, false), (15, false), (16, false)]
          (by kernel_rfl) (by kernel_rfl) rfl (by kernel_rfl) rfl ?_
        intro V0 hV0 hK0
        have HV0 := Lib.hid hV0
        clear hV0 hK0
        refine lexH_yieldE rfl rfl ?_
        apply Exists.intro
        refine ⟨fun W hW => ?_, ?_⟩
        focus (go_simp; exact rfl)
        simp only [List.getElem_toArray, List.getElem_cons_zero, Act.put, List.setIfInBounds_toArray, List.set_cons_zero, List.set_cons_succ]
        refine lexH_yieldE rfl rfl ?_
        apply Exists.intro
        refine ⟨fun W hW => ?_, ?_⟩
        focus (go_simp; exact rfl)
        simp only [List.getElem_toArray, List.getElem_cons_succ, List.getElem_cons_zero, Act.put, List.setIfInBounds_toArray, List.set_cons_zero, List.set_cons_succ]
        refine lexH_yieldE rfl rfl ?_
        apply Exists.intro
        refine ⟨fun W hW => ?_, ?_⟩
        focus (go_simp; exact rfl)
        simp only [List.getElem_toArray, List.getElem_cons_succ, List.getElem_cons_zero, Act.put, List.setIfInBounds_toArray, List.set_cons_zero, List.set_cons_succ]
        refine lexH_load rfl rfl _ _ rfl rfl L0.out ?_
        simp only [List.getElem_toArray, List.getElem_cons_succ, List.getElem_cons_zero, Act.put, List.setIfInBounds_toArray, List.set_cons_zero, List.set_cons_succ]
        refine lexH_yieldE rfl rfl ?_
        apply Exists.intro
        refine ⟨fun W hW => ?_, ?_⟩
        focus (go_simp; exact rfl)
        simp only [List.getElem_toArray, List.getElem_cons_succ, List.getElem_cons_zero, Act.put, List.setIfInBounds_toArray, List.set_cons_zero, List.set_cons_succ]
        refine lexH_yieldE rfl rfl ?_
        apply Exists.intro
        refine ⟨fun W hW => ?_, ?_⟩
        focus (go_simp; exact rfl)
        simp only [List.getElem_toArray, List.getElem_cons_succ, List.getElem_cons_zero, Act.put, List.setIfInBounds_toArray, List.set_cons_zero, List.set_cons_succ]
        refine lexH_skip rfl rfl ?_
        simp only [List.getElem_toArray, List.getElem_cons_succ, List.getElem_cons_zero, Act.put, List.setIfInBounds_toArray, List.set_cons_zero, List.set_cons_succ]
        refine lexH_skip rfl rfl ?_
        simp only [List.getElem_toArray, List.getElem_cons_succ, List.getElem_cons_zero, Act.put, List.setIfInBounds_toArray, List.set_cons_zero, List.set_cons_succ]
        refine lexH_skip rfl rfl ?_
        simp only [List.getElem_toArray, List.getElem_cons_succ, List.getElem_cons_zero, Act.put, List.setIfInBounds_toArray, List.set_cons_zero, List.set_cons_succ]
        refine lexH_skip rfl rfl ?_
        simp only [List.getElem_toArray, List.getElem_cons_succ, List.getElem_cons_zero, Act.put, List.setIfInBounds_toArray, List.set_cons_zero, List.set_cons_succ]
        refine lexH_skip rfl rfl ?_
        simp only [List.getElem_toArray, List.getElem_cons_succ, List.getElem_cons_zero, Act.put, List.setIfInBounds_toArray, List.set_cons_zero, List.set_cons_succ]
        refine lexH_skip rfl rfl ?_
        simp only [List.getElem_toArray, List.getElem_cons_succ, List.getElem_cons_zero, Act.put, List.setIfInBounds_toArray, List.set_cons_zero, List.set_cons_succ]
        refine lexH_skip rfl rfl ?_
        simp only [List.getElem_toArray, List.getElem_cons_succ, List.getElem_cons_zero, Act.put, List.setIfInBounds_toArray, List.set_cons_zero, List.set_cons_succ]
        refine lexH_skip rfl rfl ?_
        simp only [List.getElem_toArray, List.getElem_cons_succ, List.getElem_cons_zero, Act.put, List.setIfInBounds_toArray, List.set_cons_zero, List.set_cons_succ]
        refine lexH_skip rfl rfl ?_
        simp only [List.getElem_toArray, List.getElem_cons_succ, List.getElem_cons_zero, Act.put, List.setIfInBounds_toArray, List.set_cons_zero, List.set_cons_succ]
        refine lexH_skip rfl rfl ?_
        simp only [List.getElem_toArray, List.getElem_cons_succ, List.getElem_cons_zero, Act.put, List.setIfInBounds_toArray, List.set_cons_zero, List.set_cons_succ]
        refine lexH_yieldE rfl rfl ?_
        apply Exists.intro
        refine ⟨fun W hW => ?_, ?_⟩
        focus (go_simp; exact rfl)
        simp only [List.getElem_toArray, List.getElem_cons_succ, List.getElem_cons_zero, Act.put, List.setIfInBounds_toArray, List.set_cons_zero, List.set_cons_succ]
        refine lexH_nil ?_
        have HBV := Lib.hid (show Below w.heap.size w V0 by rw [HV0.out]; exact HBD.out)
        clear L0 L1 HV0
        go_wp2_with (fail)
        go_ret2
        rw [HQ.out]
        exact ⟨rfl, HR.out.later HBV.out, Only.of_below HBV.out⟩
      · have hd0 : decide (z j < 0) = false := decide_eq_false hx0
        by_cases hx1 : (Z.N : Int) ≤ z j
        · have HQ := Lib.hid (zTake_bad (g := g) (L := L) (T := T) (N := Z.N) (floor := floor) (high := high) (z := z) hlt (.inr hx1))
          have hd1 : decide ((Z.N : Int) ≤ z j) = true := decide_eq_true hx1
          generalize z j = x at L0 hd0 hd1
          clear hc hzb hx0 hx1
          go_wp2_with (fail)
          refine wp_region_lex1 (fun W => W = wr.drew) [(0, false), (1, false), (2, false), (3, false), (4, false), (5, false), (6, false), (7, false), (8, false), (9, false), (10, false), (11, false), (12, false), (13, false), (14, false), (15, false), (16, false)]
            (by kernel_rfl) (by kernel_rfl) rfl (by kernel_rfl) rfl ?_
          intro V0 hV0 hK0
          have HV0 := Lib.hid hV0
          clear hV0 hK0
          refine lexH_yieldE rfl rfl ?_
          apply Exists.intro
          refine ⟨fun W hW => ?_, ?_⟩
          focus (go_simp; exact rfl)
          simp only [List.getElem_toArray, List.getElem_cons_zero, Act.put, List.setIfInBounds_toArray, List.set_cons_zero, List.set_cons_succ]
          refine lexH_yieldE rfl rfl ?_
          apply Exists.intro
          refine ⟨fun W hW => ?_, ?_⟩
          focus (go_simp; exact rfl)
          simp only [List.getElem_toArray, List.getElem_cons_succ, List.getElem_cons_zero, Act.put, List.setIfInBounds_toArray, List.set_cons_zero, List.set_cons_succ]
          refine lexH_yieldE rfl rfl ?_
          apply Exists.intro
          refine ⟨fun W hW => ?_, ?_⟩
          focus (go_simp; exact rfl)
          simp only [List.getElem_toArray, List.getElem_cons_succ, List.getElem_cons_zero, Act.put, List.setIfInBounds_toArray, List.set_cons_zero, List.set_cons_succ]
          refine lexH_load rfl rfl _ _ rfl rfl L0.out ?_
          simp only [List.getElem_toArray, List.getElem_cons_succ, List.getElem_cons_zero, Act.put, List.setIfInBounds_toArray, List.set_cons_zero, List.set_cons_succ]
          refine lexH_yieldE rfl rfl ?_
          apply Exists.intro
          refine ⟨fun W hW => ?_, ?_⟩
          focus (go_simp; exact rfl)
          simp only [List.getElem_toArray, List.getElem_cons_succ, List.getElem_cons_zero, Act.put, List.setIfInBounds_toArray, List.set_cons_zero, List.set_cons_succ]
          refine lexH_yieldE rfl rfl ?_
          apply Exists.intro
          refine ⟨fun W hW => ?_, ?_⟩
          focus (go_simp; exact rfl)
          simp only [List.getElem_toArray, List.getElem_cons_succ, List.getElem_cons_zero, Act.put, List.setIfInBounds_toArray, List.set_cons_zero, List.set_cons_succ]
          refine lexH_yieldE rfl rfl ?_
          apply Exists.intro
          refine ⟨fun W hW => ?_, ?_⟩
          focus (go_simp; exact rfl)
          simp only [List.getElem_toArray, List.getElem_cons_succ, List.getElem_cons_zero, Act.put, List.setIfInBounds_toArray, List.set_cons_zero, List.set_cons_succ]
          refine lexH_yieldE rfl rfl ?_
          apply Exists.intro
          refine ⟨fun W hW => ?_, ?_⟩
          focus (go_simp; exact rfl)
          simp only [List.getElem_toArray, List.getElem_cons_succ, List.getElem_cons_zero, Act.put, List.setIfInBounds_toArray, List.set_cons_zero, List.set_cons_succ]
          refine lexH_yieldE rfl rfl ?_
          apply Exists.intro
          refine ⟨fun W hW => ?_, ?_⟩
          focus (go_simp; exact rfl)
          simp only [List.getElem_toArray, List.getElem_cons_succ, List.getElem_cons_zero, Act.put, List.setIfInBounds_toArray, List.set_cons_zero, List.set_cons_succ]
          refine lexH_load rfl rfl _ _ rfl rfl L0.out ?_
          simp only [List.getElem_toArray, List.getElem_cons_succ, List.getElem_cons_zero, Act.put, List.setIfInBounds_toArray, List.set_cons_zero, List.set_cons_succ]
          refine lexH_yieldE rfl rfl ?_
          apply Exists.intro
          refine ⟨fun W hW => ?_, ?_⟩
          focus (go_simp; exact rfl)
          simp only [List.getElem_toArray, List.getElem_cons_succ, List.getElem_cons_zero, Act.put, List.setIfInBounds_toArray, List.set_cons_zero, List.set_cons_succ]
          refine lexH_yieldE rfl rfl ?_
          apply Exists.intro
          refine ⟨fun W hW => ?_, ?_⟩
          focus (go_simp; exact rfl)
          simp only [List.getElem_toArray, List.getElem_cons_succ, List.getElem_cons_zero, Act.put, List.setIfInBounds_toArray, List.set_cons_zero, List.set_cons_succ]
          refine lexH_yieldE rfl rfl ?_
          apply Exists.intro
          refine ⟨fun W hW => ?_, ?_⟩
          focus (go_simp; exact rfl)
          simp only [List.getElem_toArray, List.getElem_cons_succ, List.getElem_cons_zero, Act.put, List.setIfInBounds_toArray, List.set_cons_zero, List.set_cons_succ]
          refine lexH_load rfl rfl _ _ rfl rfl L1.out ?_
          simp only [List.getElem_toArray, List.getElem_cons_succ, List.getElem_cons_zero, Act.put, List.setIfInBounds_toArray, List.set_cons_zero, List.set_cons_succ]
          refine lexH_yieldE rfl rfl ?_
          apply Exists.intro
          refine ⟨fun W hW => ?_, ?_⟩
          focus (go_simp; exact rfl)
          simp only [List.getElem_toArray, List.getElem_cons_succ, List.getElem_cons_zero, Act.put, List.setIfInBounds_toArray, List.set_cons_zero, List.set_cons_succ]
          refine lexH_yieldE rfl rfl ?_
          apply Exists.intro
          refine ⟨fun W hW => ?_, ?_⟩
          focus (go_simp; exact rfl)
          simp only [List.getElem_toArray, List.getElem_cons_succ, List.getElem_cons_zero, Act.put, List.setIfInBounds_toArray, List.set_cons_zero, List.set_cons_succ]
          refine lexH_yieldE rfl rfl ?_
          apply Exists.intro
          refine ⟨fun W hW => ?_, ?_⟩
          focus (go_simp; exact rfl)
          simp only [List.getElem_toArray, List.getElem_cons_succ, List.getElem_cons_zero, Act.put, List.setIfInBounds_toArray, List.set_cons_zero, List.set_cons_succ]
          refine lexH_nil ?_
          have HBV := Lib.hid (show Below w.heap.size w V0 by rw [HV0.out]; exact HBD.out)
          clear L0 L1 HV0
          go_wp2_with (fail)
          go_ret2
          rw [HQ.out]
          exact ⟨rfl, HR.out.later HBV.out, Only.of_below HBV.out⟩
        · have hd1 : decide ((Z.N : Int) ≤ z j) = false := decide_eq_false hx1
          have HOK2 := Lib.hid (show ∀ i, i < j + 1 → 0 ≤ z i ∧ z i < (Z.N : Int) from fun i hi => by
            by_cases e : i < j
            · exact HOK.out i e
            · obtain rfl : i = j := by omega
              omega)
          generalize z j = x at L0 hd0 hd1
          clear hc hzb hx0 hx1
          go_wp2_with (fail)
          refine wp_region_lex1 (fun W => W = wr.drew) [(0, false), (1, false), (2, false), (3, false), (4, false), (5, false), (6, false), (7, false), (8, false), (9, false), (10, false), (11, false), (12, false), (13, false), (14, false), (15, false), (16, false)]
            (by kernel_rfl) (by kernel_rfl) rfl (by kernel_rfl) rfl ?_
          intro V0 hV0 hK0
          have HV0 := Lib.hid hV0
          clear hV0 hK0
          refine lexH_yieldE rfl rfl ?_
          apply Exists.intro
          refine ⟨fun W hW => ?_, ?_⟩
          focus (go_simp; exact rfl)
          simp only [List.getElem_toArray, List.getElem_cons_zero, Act.put, List.setIfInBounds_toArray, List.set_cons_zero, List.set_cons_succ]
          refine lexH_yieldE rfl rfl ?_
          apply Exists.intro
          refine ⟨fun W hW => ?_, ?_⟩
          focus (go_simp; exact rfl)
          simp only [List.getElem_toArray, List.getElem_cons_succ, List.getElem_cons_zero, Act.put, List.setIfInBounds_toArray, List.set_cons_zero, List.set_cons_succ]
          refine lexH_yieldE rfl rfl ?_
          apply Exists.intro
          refine ⟨fun W hW => ?_, ?_⟩
          focus (go_simp; exact rfl)
          simp only [List.getElem_toArray, List.getElem_cons_succ, List.getElem_cons_zero, Act.put, List.setIfInBounds_toArray, List.set_cons_zero, List.set_cons_succ]
          refine lexH_load rfl rfl _ _ rfl rfl L0.out ?_
          simp only [List.getElem_toArray, List.getElem_cons_succ, List.getElem_cons_zero, Act.put, List.setIfInBounds_toArray, List.set_cons_zero, List.set_cons_succ]
          refine lexH_yieldE rfl rfl ?_
          apply Exists.intro
          refine ⟨fun W hW => ?_, ?_⟩
          focus (go_simp; exact rfl)
          simp only [List.getElem_toArray, List.getElem_cons_succ, List.getElem_cons_zero, Act.put, List.setIfInBounds_toArray, List.set_cons_zero, List.set_cons_succ]
          refine lexH_yieldE rfl rfl ?_
          apply Exists.intro
          refine ⟨fun W hW => ?_, ?_⟩
          focus (go_simp; exact rfl)
          simp only [List.getElem_toArray, List.getElem_cons_succ, List.getElem_cons_zero, Act.put, List.setIfInBounds_toArray, List.set_cons_zero, List.set_cons_succ]
          refine lexH_yieldE rfl rfl ?_
          apply Exists.intro
          refine ⟨fun W hW => ?_, ?_⟩
          focus (go_simp; exact rfl)
          simp only [List.getElem_toArray, List.getElem_cons_succ, List.getElem_cons_zero, Act.put, List.setIfInBounds_toArray, List.set_cons_zero, List.set_cons_succ]
          refine lexH_yieldE rfl rfl ?_
          apply Exists.intro
          refine ⟨fun W hW => ?_, ?_⟩
          focus (go_simp; exact rfl)
          simp only [List.getElem_toArray, List.getElem_cons_succ, List.getElem_cons_zero, Act.put, List.setIfInBounds_toArray, List.set_cons_zero, List.set_cons_succ]
          refine lexH_yieldE rfl rfl ?_
          apply Exists.intro
          refine ⟨fun W hW => ?_, ?_⟩
          focus (go_simp; exact rfl)
          simp only [List.getElem_toArray, List.getElem_cons_succ, List.getElem_cons_zero, Act.put, List.setIfInBounds_toArray, List.set_cons_zero, List.set_cons_succ]
          refine lexH_load rfl rfl _ _ rfl rfl L0.out ?_
          simp only [List.getElem_toArray, List.getElem_cons_succ, List.getElem_cons_zero, Act.put, List.setIfInBounds_toArray, List.set_cons_zero, List.set_cons_succ]
          refine lexH_yieldE rfl rfl ?_
          apply Exists.intro
          refine ⟨fun W hW => ?_, ?_⟩
          focus (go_simp; exact rfl)
          simp only [List.getElem_toArray, List.getElem_cons_succ, List.getElem_cons_zero, Act.put, List.setIfInBounds_toArray, List.set_cons_zero, List.set_cons_succ]
          refine lexH_yieldE rfl rfl ?_
          apply Exists.intro
          refine ⟨fun W hW => ?_, ?_⟩
          focus (go_simp; exact rfl)
          simp only [List.getElem_toArray, List.getElem_cons_succ, List.getElem_cons_zero, Act.put, List.setIfInBounds_toArray, List.set_cons_zero, List.set_cons_succ]
          refine lexH_yieldE rfl rfl ?_
          apply Exists.intro
          refine ⟨fun W hW => ?_, ?_⟩
          focus (go_simp; exact rfl)
          simp only [List.getElem_toArray, List.getElem_cons_succ, List.getElem_cons_zero, Act.put, List.setIfInBounds_toArray, List.set_cons_zero, List.set_cons_succ]
          refine lexH_load rfl rfl _ _ rfl rfl L1.out ?_
          simp only [List.getElem_toArray, List.getElem_cons_succ, List.getElem_cons_zero, Act.put, List.setIfInBounds_toArray, List.set_cons_zero, List.set_cons_succ]
          refine lexH_yieldE rfl rfl ?_
          apply Exists.intro
          refine ⟨fun W hW => ?_, ?_⟩
          focus (go_simp; exact rfl)
          simp only [List.getElem_toArray, List.getElem_cons_succ, List.getElem_cons_zero, Act.put, List.setIfInBounds_toArray, List.set_cons_zero, List.set_cons_succ]
          refine lexH_yieldE rfl rfl ?_
          apply Exists.intro
          refine ⟨fun W hW => ?_, ?_⟩
          focus (go_simp; exact rfl)
          simp only [List.getElem_toArray, List.getElem_cons_succ, List.getElem_cons_zero, Act.put, List.setIfInBounds_toArray, List.set_cons_zero, List.set_cons_succ]
          refine lexH_yieldE rfl rfl ?_
          apply Exists.intro
          refine ⟨fun W hW => ?_, ?_⟩
          focus (go_simp; exact rfl)
          simp only [List.getElem_toArray, List.getElem_cons_succ, List.getElem_cons_zero, Act.put, List.setIfInBounds_toArray, List.set_cons_zero, List.set_cons_succ]
          refine lexH_nil ?_
          have HBV := Lib.hid (show Below w.heap.size w V0 by rw [HV0.out]; exact HBD.out)
          clear L0 L1 HV0
          go_wp2_with (fail)
          go_roundw
          case rel => exact ⟨j + 1, hlt, by go_num, HOK2, HBV.out⟩
          case measure => simp [intOf]; omega
    · obtain rfl : j = len := by omega
      by_cases hf : floor < 0
      · have HQ := Lib.hid (zTake_low (g := g) (L := L) (T := T) (N := Z.N) (high := high) (z := z) (len := j) hf)
        go_wp2_with (fail)
        go_ret2
        rw [HQ.out]
        exact ⟨rfl, HR.out.later HB.out, Only.of_below HB.out⟩
      · have HFL := Lib.hid (show 0 ≤ floor by omega)
        go_wp2_with (fail)
        have HRW := Lib.hid (HR.out.later HB.out)
        have HOB := Lib.hid (Only.of_below (S := Z.own) HB.out)
        go_loop [11] (fun i => ∃ q : Nat, q ≤ j ∧ i = .int .i64 q ∧ Hid (∀ i, i < q → (zFree Z.N L (z i) : Int) ≤ floor)) (fun i => j - (intOf i).toNat)
        case atStart => exact ⟨0, Nat.zero_le _, rfl, fun i h => absurd h (Nat.not_lt_zero _)⟩
        case round =>
          obtain ⟨q, hq, rfl, HNO⟩ := hrel
          by_cases hlq : q < j
          · obtain ⟨b, o, rfl, hbl, hzb, hc⟩ := HZ.out.one q hlq
            have hlqI : (q : Int) < (j : Int) := by omega
            have c0 := hc wr HB.out
            obtain ⟨f, hfr⟩ : ∃ f, zFree Z.N L (z q) = f := ⟨_, rfl⟩
            have HFR := Lib.hid hfr
            have HCF := zfree_any HRW.out HI.out (z q)
            have HCT := ztakeof_any HRW.out HI.out HT.out (z q) 0 high
            rw [hfr] at HCF
            by_cases hgt : floor < (f : Int)
            · have HQ := Lib.hid (zTake_at (floor := floor) (g := g) (L := L) (T := T) (N := Z.N) (high := high) HOK.out (by have := HFL.out; omega) hlq (by rw [hfr]; exact hgt) (fun i hi => by have := HNO.out i hi; omega))
              generalize z q = x at c0 HCF HCT HQ
              clear hc hzb hfr
              go_wp2_with (fail)
              refine HCF.mono ?_
              rintro e w' ⟨rfl, rfl⟩
              go_wp2_with (fail)
              refine HCT.mono ?_
              rintro e w' ⟨rfl, h2, h3⟩
              have H2 := Lib.hid h2
              have H3 := Lib.hid (HOB.out.trans h3)
              clear h2 h3 c0 HCF HCT
              go_wp2_with (fail)
              go_ret2
              rw [HQ.out]
              exact ⟨rfl, H2.out, H3.out⟩
            · have HNO2 := Lib.hid (show ∀ i, i < q + 1 → (zFree Z.N L (z i) : Int) ≤ floor from fun i hi => by
                by_cases e : i < q
                · exact HNO.out i e
                · obtain rfl : i = q := by omega
                  rw [hfr]; omega)
              generalize z q = x at c0 HCF HCT
              clear hc hzb hfr HCT
              go_wp2_with (fail)
              refine HCF.mono ?_
              rintro e w' ⟨rfl, rfl⟩
              go_wp2_with (fail)
              go_round
              case rel => exact ⟨q + 1, hlq, by go_num, HNO2⟩
              case measure => simp [intOf]; omega
          · obtain rfl : q = j := by omega
            have HQ := Lib.hid (zTake_none (floor := floor) (g := g) (L := L) (T := T) (N := Z.N) (high := high) HOK.out (by have := HFL.out; omega) (fun i hi => by have := HNO.out i hi; omega))
            go_wp2_with (fail)
            go_ret2
            rw [HQ.out]
            exact ⟨rfl, HRW.out, HOB.out⟩
/-- The node of a frame. -/
def nodeF (g : Nat → Int) (N : Nat) (f : Nat) : Nat := ((nodL g N).getD f 0).toNat
/-- What Give comes to. -/
def zGive (g : Nat → Int) (N : Nat) (L T : Nat → List (Int × Int)) (frame order : Int) : Int × (Nat → List (Int × Int)) × (Nat → List (Int × Int)) :=
  if 0 ≤ frame ∧ frame < ((nodL g N).length : Int) then
    ((giveS (L (nodeF g N frame.toNat)) (T (nodeF g N frame.toNat)) (frame - sumF g (nodeF g N frame.toNat)) order).1,
      updN L (nodeF g N frame.toNat) (giveS (L (nodeF g N frame.toNat)) (T (nodeF g N frame.toNat)) (frame - sumF g (nodeF g N frame.toNat)) order).2.1,
      updN T (nodeF g N frame.toNat) (giveS (L (nodeF g N frame.toNat)) (T (nodeF g N frame.toNat)) (frame - sumF g (nodeF g N frame.toNat)) order).2.2)
  else (7, L, T)
def ZGPost (w : World) (Z : ZB) (g : Nat → Int) (q : Int × (Nat → List (Int × Int)) × (Nat → List (Int × Int))) (e : Ending) (w' : World) : Prop :=
  e = .returned (.int .i64 q.1) ∧ ZRef w' Z g q.2.1 q.2.2 ∧ Only Z.own w w'
theorem nodeF_is (g : Nat → Int) {N f : Nat} (hf : f < (nodL g N).length) : (nodL g N).getD f 0 = (nodeF g N f : Int) ∧ nodeF g N f < N := by
  have h : (nodL g N).getD f 0 = (nodL g N)[f] := by rw [List.getD_eq_getElem?_getD, List.getElem?_eq_getElem hf]; rfl
  have h2 := nodL_lt g N _ (List.getElem_mem hf)
  unfold nodeF
  rw [h]
  omega
set_option maxRecDepth 100000 in
set_option maxHeartbeats 2000000 in
theorem zgive_any (R : ZRef w Z g L T) (I : ∀ i, i < Z.N → Inv (frN g i) (L i) (T i)) (hT : ∀ i, i < Z.N → (T i).length ≤ 900) (frame order : Int) :
    Calls Try.prog 18 #[.pointer (some ⟨Z.r, 0, none⟩), .int .i64 frame, .int .i64 order] w (ZGPost w Z g (zGive g Z.N L T frame order)) := by
  have c95 := R.c95
  have HR := Lib.hid R
  by_cases h0 : frame < 0
  · have hz : zGive g Z.N L T frame order = (7, L, T) := by unfold zGive; rw [if_neg (by omega)]
    rw [hz]
    clear hz I R
    go_enter Try.func18, Try.ntmps18
    go_wp2_with (fail)
    go_ret
    exact ⟨rfl, HR.out, Only.refl _ _⟩
  · by_cases h1 : frame < (Z.tot g : Int)
    · obtain ⟨f, rfl⟩ : ∃ f : Nat, frame = f := ⟨frame.toNat, by omega⟩
      have hf : f < Z.tot g := by omega
      have h2 : ¬ ((Z.tot g : Int) ≤ (f : Int)) := by omega
      have cf := R.nod.cell f hf
      obtain ⟨e1, e2⟩ := nodeF_is g (N := Z.N) hf
      have htot := (R.len (k := Z.N) (Nat.le_refl _)).2.1
      unfold zGive
      rw [if_pos ⟨by omega, h1⟩, Int.toNat_natCast]
      rw [e1] at cf
      generalize nodeF g Z.N f = k at *
      have hk : k < Z.N := e2
      have hs := R.len (k := k) (by omega)
      have hs1 : 0 ≤ sumF g k ∧ sumF g k ≤ 1024 := by omega
      have hf2 : f ≤ 1024 := by unfold ZB.tot at hf; omega
      have hwr : IntKind.i64.wrap ((f : Int) - sumF g k) = (f : Int) - sumF g k := by rw [IntKind.wrap_i64]; omega
      obtain ⟨v, u, B⟩ := R.ref k hk
      have IK := I k hk
      have hl := IK.len
      have hlt := hT k hk
      have htk := give_any (B.later (Below.refl w.heap.size w).drew) (by omega) (by omega) IK.goodT ((f : Int) - sumF g k) order
      have R0 := R.later (Below.refl w.heap.size w).drew
      have HR0 := Lib.hid R0
      have HFI := Lib.hid (zfirst_any R0 k (by omega))
      unfold BGive at htk
      generalize giveS (L k) (T k) ((f : Int) - sumF g k) order = q at *
      obtain ⟨q1, q3, q4⟩ := q
      dsimp only at htk ⊢
      have HTK := Lib.hid htk
      have L0 := Lib.hid (show ∀ W, Only Z.own w.drew W → (loadVar 69 ⟨Z.r, 94, none⟩).run Try.prog W = .ok (.slice (some ⟨Z.rb, 0, none⟩) Z.N Z.cb) W from fun W hW => run_loadVar_cell (fun _ => by kernel_rfl) (hW.cell R0.aside.1 R0.c94))
      have L1 := Lib.hid (show ∀ W, Only Z.own w.drew W → (loadVar 72 ⟨Z.rb, k, none⟩).run Try.prog W = .ok (.pointer (some ⟨Z.bs k, 0, none⟩)) W from fun W hW => run_loadVar_cell (fun _ => by kernel_rfl) (hW.cell R0.aside.2.1 (R0.cb hk)))
      clear I R h0 B IK htk R0 e1
      go_enter Try.func18, Try.ntmps18
      go_wp2_with (fail)
      refine wp_region_lex1 (Only Z.own w.drew) [(0, false), (1, false), (2, false), (3, false), (4, false), (5, false), (6, false), (7, false), (8, false), (9, false), (12, false), (10, true), (11, false), (13, true), (14, false)]
        (by kernel_rfl) (by kernel_rfl) rfl (by kernel_rfl) (Only.refl _ _) ?_
      intro W0 hW0 hK0
      clear hK0
      subst hW0
      refine lexH_yieldE rfl rfl ?_
      apply Exists.intro
      refine ⟨fun W hW => ?_, ?_⟩
      focus (go_simp; exact rfl)
      simp only [List.getElem_toArray, List.getElem_cons_zero, Act.put, List.setIfInBounds_toArray, List.set_cons_zero, List.set_cons_succ]
      refine lexH_yieldE rfl rfl ?_
      apply Exists.intro
      refine ⟨fun W hW => ?_, ?_⟩
      focus (go_simp; exact rfl)
      simp only [List.getElem_toArray, List.getElem_cons_succ, List.getElem_cons_zero, Act.put, List.setIfInBounds_toArray, List.set_cons_zero, List.set_cons_succ]
      refine lexH_yieldE rfl rfl ?_
      apply Exists.intro
      refine ⟨fun W hW => ?_, ?_⟩
      focus (go_simp; exact rfl)
      simp only [List.getElem_toArray, List.getElem_cons_succ, List.getElem_cons_zero, Act.put, List.setIfInBounds_toArray, List.set_cons_zero, List.set_cons_succ]
      refine lexH_load rfl rfl _ _ rfl rfl L0.out ?_
      simp only [List.getElem_toArray, List.getElem_cons_succ, List.getElem_cons_zero, Act.put, List.setIfInBounds_toArray, List.set_cons_zero, List.set_cons_succ]
      refine lexH_yieldE rfl rfl ?_
      apply Exists.intro
      refine ⟨fun W hW => ?_, ?_⟩
      focus (go_simp; exact rfl)
      simp only [List.getElem_toArray, List.getElem_cons_succ, List.getElem_cons_zero, Act.put, List.setIfInBounds_toArray, List.set_cons_zero, List.set_cons_succ]
      refine lexH_yieldE rfl rfl ?_
      apply Exists.intro
      refine ⟨fun W hW => ?_, ?_⟩
      focus (go_simp; exact rfl)
      simp only [List.getElem_toArray, List.getElem_cons_succ, List.getElem_cons_zero, Act.put, List.setIfInBounds_toArray, List.set_cons_zero, List.set_cons_succ]
      refine lexH_load rfl rfl _ _ rfl rfl L1.out ?_
      simp only [List.getElem_toArray, List.getElem_cons_succ, List.getElem_cons_zero, Act.put, List.setIfInBounds_toArray, List.set_cons_zero, List.set_cons_succ]
      refine lexH_yieldE rfl rfl ?_
      apply Exists.intro
      refine ⟨fun W hW => ?_, ?_⟩
      focus (go_simp; exact rfl)
      simp only [List.getElem_toArray, List.getElem_cons_succ, List.getElem_cons_zero, Act.put, List.setIfInBounds_toArray, List.set_cons_zero, List.set_cons_succ]
      refine lexH_yieldE rfl rfl ?_
      apply Exists.intro
      refine ⟨fun W hW => ?_, ?_⟩
      focus (go_simp; exact rfl)
      simp only [List.getElem_toArray, List.getElem_cons_succ, List.getElem_cons_zero, Act.put, List.setIfInBounds_toArray, List.set_cons_zero, List.set_cons_succ]
      refine lexH_yieldE rfl rfl ?_
      apply Exists.intro
      refine ⟨fun W hW => ?_, ?_⟩
      focus (go_simp; exact rfl)
      simp only [List.getElem_toArray, List.getElem_cons_succ, List.getElem_cons_zero, Act.put, List.setIfInBounds_toArray, List.set_cons_zero, List.set_cons_succ]
      refine lexH_yieldE rfl rfl ?_
      apply Exists.intro
      refine ⟨fun W hW => ?_, ?_⟩
      focus (go_simp; exact rfl)
      simp only [List.getElem_toArray, List.getElem_cons_succ, List.getElem_cons_zero, Act.put, List.setIfInBounds_toArray, List.set_cons_zero, List.set_cons_succ]
      refine lexH_call 37 #[.pointer (some ⟨Z.r, 0, none⟩), .int .i64 k] rfl rfl ?_ ?_
      focus (go_simp; done)
      refine HFI.out.mono ?_
      rintro e w2 ⟨rfl, rfl⟩
      refine ⟨_, rfl, Only.refl _ _, ?_⟩
      simp only [List.getElem_toArray, List.getElem_cons_succ, List.getElem_cons_zero, Act.put, List.setIfInBounds_toArray, List.set_cons_zero, List.set_cons_succ]
      refine lexH_yieldE rfl rfl ?_
      apply Exists.intro
      refine ⟨fun W hW => ?_, ?_⟩
      focus (go_simp; exact rfl)
      simp only [List.getElem_toArray, List.getElem_cons_succ, List.getElem_cons_zero, Act.put, List.setIfInBounds_toArray, List.set_cons_zero, List.set_cons_succ]
      refine lexH_call 40 #[.pointer (some ⟨Z.bs k, 0, none⟩), .int .i64 ((f : Int) - sumF g k), .int .i64 order] rfl rfl ?_ ?_
      focus (go_simp; done)
      refine HTK.out.mono ?_
      rintro e w3 ⟨rfl, v', u', hR, ho⟩
      have HR3 := Lib.hid (HR0.out.turn hk hR ho)
      have HO3 := Lib.hid (show Only Z.own w.drew w3 from ho.mono (fun j hj => ⟨k, hk, hj.symm⟩))
      refine ⟨_, rfl, HO3.out, ?_⟩
      clear hR ho L0 L1
      simp only [List.getElem_toArray, List.getElem_cons_succ, List.getElem_cons_zero, Act.put, List.setIfInBounds_toArray, List.set_cons_zero, List.set_cons_succ]
      refine lexH_yieldE rfl rfl ?_
      apply Exists.intro
      refine ⟨fun W hW => ?_, ?_⟩
      focus (go_simp; exact rfl)
      simp only [List.getElem_toArray, List.getElem_cons_succ, List.getElem_cons_zero, Act.put, List.setIfInBounds_toArray, List.set_cons_zero, List.set_cons_succ]
      refine lexH_nil ?_
      have HO4 := Lib.hid (show Only Z.own w w3 from (Only.of_below (Below.refl w.heap.size w).drew).trans HO3.out)
      go_wp2_with (fail)
      go_ret
      exact ⟨rfl, HR3.out, HO4.out⟩
    · have hz : zGive g Z.N L T frame order = (7, L, T) := by unfold zGive; rw [if_neg (by unfold ZB.tot at h1; omega)]
      rw [hz]
      have h2 : (Z.tot g : Int) ≤ frame := by omega
      clear hz I R
      go_enter Try.func18, Try.ntmps18
      go_wp2_with (fail)
      go_ret
      exact ⟨rfl, HR.out, Only.refl _ _⟩
end
end
/-! zones: the document's Blocks. -/
section
open Go.RowKit Go

/-- Blocks by numbers through all nodes. -/
def shiftL (c : Int) (M : List (Int × Int)) : List (Int × Int) := M.map fun p => (c + p.1, p.2)
def zBlocks (g : Nat → Int) (L : Nat → List (Int × Int)) : Nat → List (Int × Int)
  | 0 => []
  | k + 1 => zBlocks g L k ++ shiftL (sumF g k) (L k)
theorem shiftL_len (c : Int) (M : List (Int × Int)) : (shiftL c M).length = M.length := by simp [shiftL]
theorem shiftL_take {c : Int} {M : List (Int × Int)} {j : Nat} (h : j < M.length) : shiftL c (M.take (j + 1)) = shiftL c (M.take j) ++ [(c + M[j].1, M[j].2)] := by
  unfold shiftL
  rw [List.take_succ_eq_append_getElem h, List.map_append]
  rfl
theorem zBlocks_len {g : Nat → Int} {L T : Nat → List (Int × Int)} {N : Nat} (I : ∀ i, i < N → Inv (frN g i) (L i) (T i)) : ∀ k, k ≤ N → (zBlocks g L k).length ≤ 128 * k
  | 0, _ => Nat.le_refl _
  | k + 1, h => by
    have h1 := zBlocks_len I k (by omega)
    have h2 := (I k (by omega)).len
    show (zBlocks g L k ++ shiftL (sumF g k) (L k)).length ≤ _
    rw [List.length_append, shiftL_len]
    omega
section
variable {w w' : World} {Z : ZB} {g : Nat → Int} {L T : Nat → List (Int × Int)}
set_option maxRecDepth 100000 in
set_option maxHeartbeats 4000000 in
theorem zblocks_any (R : ZRef w Z g L T) (I : ∀ i, i < Z.N → Inv (frN g i) (L i) (T i)) :
    Calls Try.prog 28 #[.pointer (some ⟨Z.r, 0, none⟩)] w fun e w' => ∃ a c, e = .returned (.slice a (zBlocks g L Z.N).length c) ∧ RecsAt w' w.heap.size a encB 2 (zBlocks g L Z.N) ∧ Below w.heap.size w w' := by
  obtain ⟨i0, hi, hz0, hz1, hz2⟩ := info_parts infoBlock
  have HR := Lib.hid R
  have HI := Lib.hid I
  have h8 := R.n8
  clear R I
  go_enter Try.func28, Try.ntmps28
  go_wp2_with (fail)
  go_loopw [3, 4] (fun l i wr => ∃ (k : Nat) (la : Option Addr) (lc : Nat), k ≤ Z.N ∧ i = .int .i64 k ∧ l = .slice la (zBlocks g L k).length lc ∧ wr.ownsRow w.heap.size 77 2 (.slice la (zBlocks g L k).length lc) (zBlocks g L k).length (recV encB (zBlocks g L k)) ∧ Below w.heap.size w wr) (fun _ i _ => Z.N - (intOf i).toNat)
  case atStart => exact ⟨0, none, 0, Nat.zero_le _, rfl, rfl, World.ownsRow_nil _ _ _ _, Below.refl _ _⟩
  case round =>
    obtain ⟨k, la, lc, hk, rfl, rfl, hown, hb⟩ := hrel
    have HO := Lib.hid hown
    have HB := Lib.hid hb
    have c94 := (HR.out.later hb).c94
    clear hown hb
    by_cases hlt : k < Z.N
    · have hltI : (k : Int) < (Z.N : Int) := by omega
      have hlen := zBlocks_len HI.out k (by omega)
      have hLk := (HI.out k hlt).len
      have hs := HR.out.len (k := k) (by omega)
      have hs1 : 0 ≤ sumF g k ∧ sumF g k ≤ 1024 := by omega
      clear hs
      obtain ⟨v, u, B0⟩ := HR.out.ref k hlt
      obtain ⟨a0, q0, e0, _⟩ := B0.fr
      subst e0
      have HBR := Lib.hid B0
      have HIK := Lib.hid (HI.out k hlt)
      have HZ1 := Lib.hid (show zBlocks g L (k + 1) = zBlocks g L k ++ shiftL (sumF g k) (L k) from rfl)
      clear B0
      generalize zBlocks g L k = M at *
      go_wp2_with (fail)
      go_loopw [3, 5] (fun l i wx => ∃ (j : Nat) (ma : Option Addr) (mc : Nat), j ≤ (L k).length ∧ i = .int .i64 j ∧ l = .slice ma (M.length + j) mc ∧ wx.ownsRow w.heap.size 77 2 (.slice ma (M.length + j) mc) (M.length + j) (recV encB (M ++ shiftL (sumF g k) ((L k).take j))) ∧ Below w.heap.size w wx) (fun _ i _ => (L k).length - (intOf i).toNat)
      case atStart => exact ⟨0, la, lc, Nat.zero_le _, rfl, rfl, by simpa [shiftL] using HO.out, HB.out⟩
      case round =>
        clear HO HB c94
        obtain ⟨j, ma, mc, hj, rfl, rfl, hown, hb⟩ := hrel
        have HO := Lib.hid hown
        have HB := Lib.hid hb
        have R1 := HR.out.later hb
        have c94 := R1.c94
        have ck := R1.cb hlt
        have b1 := (HBR.out.later hb).c1
        have HR1 := Lib.hid R1
        clear hown hb R1
        by_cases hlj : j < (L k).length
        · have hljI : (j : Int) < ((L k).length : Int) := by omega
          obtain ⟨gb, e0, d0, d1⟩ := (HBR.out.later HB.out).atF j hlj
          subst e0
          obtain ⟨x, o, hx, ho⟩ := HIK.out.ten _ (List.getElem_mem hlj)
          have hmem : ((x : Int), (o : Int)) ∈ L k := by rw [← hx]; exact List.getElem_mem hlj
          have hxb := (HIK.out.stk.al o x (.inl hmem)).2.2
          have hx128 : x ≤ 128 := by have := HIK.out.n2; have := Nat.one_le_two_pow (n := o); omega
          have hwr : IntKind.i64.wrap (sumF g k + (x : Int)) = sumF g k + (x : Int) := by rw [IntKind.wrap_i64]; omega
          clear hmem hxb
          have HTK := Lib.hid (show shiftL (sumF g k) ((L k).take (j + 1)) = shiftL (sumF g k) ((L k).take j) ++ [(sumF g k + (x : Int), (o : Int))] by rw [shiftL_take hlj, hx])
          rw [hx] at d0 d1
          dsimp only at d0 d1
          clear hx
          have ha : Below wr.heap.size wr (wr.alloc (.cells #[.int .i64 x, .int .i64 o] 77)) := (Below.refl _ wr).alloc (Nat.le_refl _) _
          have HX := Lib.hid (block_row wr x o)
          have HB1 := Lib.hid (HB.out.trans (ha.mono HB.out.size))
          have HO1 := Lib.hid (owns_later HO.out ha)
          have HLT := Lib.hid (fun q (hq : (Value.slice ma (M.length + j) mc).ownBlock = some q) => (HO.out.lt q hq).2)
          have HWS := Lib.hid HB.out.size
          clear ha HO HB HR1
          go_wp2_with (fail)
          generalize wr.heap.size = xb at *
          generalize wr.alloc (.cells #[.int .i64 x, .int .i64 o] 77) = W1 at *
          clear c94 ck b1 d0 d1
          have L0 := Lib.hid (show ∀ W, (Below w.heap.size w W ∧ RowAt W xb 2 (blkV x o)) → (loadVar 3 ⟨xb, 0, none⟩).run Try.prog W = .ok (.int .i64 x) W from fun W hW => run_loadVar_cell (fun _ => by kernel_rfl) (hW.2.cell 0 (by decide)))
          have L1 := Lib.hid (show ∀ W, (Below w.heap.size w W ∧ RowAt W xb 2 (blkV x o)) → (loadVar 3 ⟨xb, 1, none⟩).run Try.prog W = .ok (.int .i64 o) W from fun W hW => run_loadVar_cell (fun _ => by kernel_rfl) (hW.2.cell 1 (by decide)))
          refine wp_region_lex1 (fun W => Below w.heap.size w W ∧ RowAt W xb 2 (blkV x o)) [(0, false), (1, false), (2, false), (4, false), (5, false), (7, false), (8, false), (3, true), (6, false), (9, false), (10, true), (11, true), (12, false)]
            (by kernel_rfl) (by kernel_rfl) rfl (by kernel_rfl) ⟨HB1.out.trans ((Below.refl _ W1).drew), HX.out.later (Below.refl _ W1).drew⟩ ?_
          intro V0 hV0 hK0
          have HK0 := Lib.hid hK0
          have HO2 := Lib.hid (show V0.ownsRow w.heap.size 77 2 (.slice ma (M.length + j) mc) (M.length + j) (recV encB (M ++ shiftL (sumF g k) ((L k).take j))) by rw [hV0]; exact owns_later HO1.out (Below.refl _ W1).drew)
          clear hV0 hK0 HO1 HB1 HX
          refine lexH_yieldE rfl rfl ?_
          apply Exists.intro
          refine ⟨fun W hW => ?_, ?_⟩
          focus (go_simp; exact rfl)
          simp only [List.getElem_toArray, List.getElem_cons_zero, Act.put, List.setIfInBounds_toArray, List.set_cons_zero, List.set_cons_succ]
          refine lexH_yieldE rfl rfl ?_
          apply Exists.intro
          refine ⟨fun W hW => ?_, ?_⟩
          focus (go_simp; exact rfl)
          simp only [List.getElem_toArray, List.getElem_cons_succ, List.getElem_cons_zero, Act.put, List.setIfInBounds_toArray, List.set_cons_zero, List.set_cons_succ]
          refine lexH_yieldE rfl rfl ?_
          apply Exists.intro
          refine ⟨fun W hW => ?_, ?_⟩
          focus (go_simp; exact rfl)
          simp only [List.getElem_toArray, List.getElem_cons_succ, List.getElem_cons_zero, Act.put, List.setIfInBounds_toArray, List.set_cons_zero, List.set_cons_succ]
          refine lexH_yieldE rfl rfl ?_
          apply Exists.intro
          refine ⟨fun W hW => ?_, ?_⟩
          focus (go_simp; exact rfl)
          simp only [List.getElem_toArray, List.getElem_cons_succ, List.getElem_cons_zero, Act.put, List.setIfInBounds_toArray, List.set_cons_zero, List.set_cons_succ]
          refine lexH_load rfl rfl _ _ rfl rfl L0.out ?_
          simp only [List.getElem_toArray, List.getElem_cons_succ, List.getElem_cons_zero, Act.put, List.setIfInBounds_toArray, List.set_cons_zero, List.set_cons_succ]
          refine lexH_yieldE rfl rfl ?_
          apply Exists.intro
          refine ⟨fun W hW => ?_, ?_⟩
          focus (go_simp; exact rfl)
          simp only [List.getElem_toArray, List.getElem_cons_succ, List.getElem_cons_zero, Act.put, List.setIfInBounds_toArray, List.set_cons_zero, List.set_cons_succ]
          refine lexH_load rfl rfl _ _ rfl rfl L1.out ?_
          simp only [List.getElem_toArray, List.getElem_cons_succ, List.getElem_cons_zero, Act.put, List.setIfInBounds_toArray, List.set_cons_zero, List.set_cons_succ]
          refine lexH_call 37 #[.pointer (some ⟨Z.r, 0, none⟩), .int .i64 k] rfl rfl ?_ ?_
          focus (go_simp; done)
          refine (zfirst_any (HR.out.later HK0.out.1) k (by omega)).mono ?_
          rintro e w2 ⟨rfl, rfl⟩
          refine ⟨_, rfl, HK0.out, ?_⟩
          simp only [List.getElem_toArray, List.getElem_cons_succ, List.getElem_cons_zero, Act.put, List.setIfInBounds_toArray, List.set_cons_zero, List.set_cons_succ]
          refine lexH_yieldE rfl rfl ?_
          apply Exists.intro
          refine ⟨fun W hW => ?_, ?_⟩
          focus (go_simp; exact rfl)
          simp only [List.getElem_toArray, List.getElem_cons_succ, List.getElem_cons_zero, Act.put, List.setIfInBounds_toArray, List.set_cons_zero, List.set_cons_succ]
          refine lexH_yieldE rfl rfl ?_
          apply Exists.intro
          refine ⟨fun W hW => ?_, ?_⟩
          focus (go_simp; exact rfl)
          simp only [List.getElem_toArray, List.getElem_cons_succ, List.getElem_cons_zero, Act.put, List.setIfInBounds_toArray, List.set_cons_zero, List.set_cons_succ]
          refine lexH_eff rfl rfl ?_
          unfold Oper.wp
          go_simp
          have ha2 : Below w.heap.size w (V0.alloc (.cells #[.int .i64 (sumF g k + (x : Int)), .int .i64 o] 77)) := HK0.out.1.alloc HK0.out.1.size _
          have hx2 := HK0.out.2.later ((Below.refl V0.heap.size V0).alloc (Nat.le_refl _) (.cells #[.int .i64 (sumF g k + (x : Int)), .int .i64 o] 77))
          have HO3 := Lib.hid (owns_later HO2.out ((Below.refl V0.heap.size V0).alloc (Nat.le_refl _) (.cells #[.int .i64 (sumF g k + (x : Int)), .int .i64 o] 77)))
          have HA2 := Lib.hid ha2
          have HX2 := Lib.hid hx2
          refine ⟨⟨ha2, hx2⟩, ?_⟩
          clear ha2 hx2
          refine lexH_append_src _ rfl rfl _ _ 74 rfl w.heap.size 77 i0 _ 2 16 Try.underlying74 hi hz0 hz1 hz2 rfl (by decide) _ _ _ HO3.out HA2.out.size (some ⟨V0.heap.size, 0, none⟩) 1 1 [.int .i64 (sumF g k + (x : Int)), .int .i64 o] rfl rfl rfl ?q5 (encB_one (sumF g k + (x : Int), (o : Int))) ?q6 (by decide) ?_
          case q5 =>
            refine fun _ => ⟨_, rfl, fun q u hq => ?_⟩
            rw [Addr.add_lit, Nat.zero_add, cell_of_row _ _ _ _ _ _ (heap_alloc_new V0 _)]
            simpa using hq
          case q6 => omega
          intro v2 W2 hown2 ho2 _
          have HO4 := Lib.hid hown2
          have HK3 := Lib.hid (ho2.below HA2.out HA2.out.size (fun q hq => (HO3.out.lt q hq).1))
          have HX3 := Lib.hid (HX2.out.only ho2 (fun h => by have := HLT.out _ h; omega))
          obtain ⟨a2, cap2, hv2, _⟩ := owns_slice hown2
          subst hv2
          refine ⟨⟨HK3.out, HX3.out⟩, ?_⟩
          clear hown2 ho2 HO3 HA2 HX2 HO2 L0 L1
          simp only [List.getElem_toArray, List.getElem_cons_succ, List.getElem_cons_zero, Act.put, List.setIfInBounds_toArray, List.set_cons_zero, List.set_cons_succ]
          refine lexH_yieldE rfl rfl ?_
          apply Exists.intro
          refine ⟨fun W hW => ?_, ?_⟩
          focus (go_simp; exact rfl)
          simp only [List.getElem_toArray, List.getElem_cons_succ, List.getElem_cons_zero, Act.put, List.setIfInBounds_toArray, List.set_cons_zero, List.set_cons_succ]
          refine lexH_nil ?_
          have HRV := Lib.hid (show recV encB (M ++ shiftL (sumF g k) ((L k).take (j + 1))) = recV encB (M ++ shiftL (sumF g k) ((L k).take j)) ++ [.int .i64 (sumF g k + (x : Int)), .int .i64 o] by
            rw [HTK.out, ← List.append_assoc, recV_append, recV_single]
            rfl)
          go_wp2_with (fail)
          go_roundw
          case rel => exact ⟨j + 1, a2, cap2, hlj, by go_num, rfl, by rw [HRV.out]; exact HO4.out, HK3.out⟩
          case measure => simp [intOf]; omega
        · obtain rfl : j = (L k).length := by omega
          go_wp2_with (fail)
          go_roundw
          case rel => exact ⟨k + 1, ma, mc, by omega, by go_num, by rw [HZ1.out, List.length_append, shiftL_len], by rw [HZ1.out, List.length_append, shiftL_len]; have h := HO.out; rw [List.take_length] at h; exact h, HB.out⟩
          case measure => simp [intOf]; omega
    · obtain rfl : k = Z.N := by omega
      go_wp2_with (fail)
      go_ret
      obtain ⟨a9, c9, e9, hR9⟩ := RecsAt.of_owns HO.out
      injection e9 with e1 _ _
      subst e1
      exact ⟨la, lc, rfl, hR9, HB.out⟩
end
end
/-! asked, First. -/
section
open Go.RowKit Go

/-- What is wrong with asking for a node. -/
def askI (g : Nat → Int) (node : Int) : Int := if mayB g = true then (if withinB node 0 (g 0 - 1) = true then 0 else 7) else 2
set_option maxRecDepth 100000 in
theorem asked_any (A : Array Value) (g : Nat → Int) (node : Int) (w : World) (hA : Cfg A g) :
    Calls Try.prog 70 #[.agg A, .int .i64 node] w fun e w' => e = .returned (.int .i64 (askI g node)) ∧ Below w.heap.size w w' := by
  have C0 := CfgAt.new w hA
  have HA := Lib.hid hA
  clear hA
  cases hm : mayB g with
  | false =>
    have HT := Lib.hid (show askI g node = 2 by unfold askI; rw [hm]; rfl)
    have HM := Lib.hid hm
    clear hm
    go_enter Try.func70, Try.ntmps70
    go_wp2_with (refine wpList_load_cfg rfl _ rfl _ rfl C0 ?_)
    refine (may_any A g _ HA.out).mono ?_
    rintro e w1 ⟨rfl, hb⟩
    rw [HM.out]
    have HB := Lib.hid hb
    clear hb
    go_wp2_with (fail)
    go_ret
    exact ⟨by rw [HT.out]; rfl, ((Below.refl _ _).alloc (Nat.le_refl _) _).trans (HB.out.mono (by simp))⟩
  | true =>
    have G := (good_iff g).1 hm
    obtain ⟨n, hn⟩ := Int.eq_ofNat_of_zero_le (show 0 ≤ g 0 by have := G.n1; omega)
    have hn1 : 1 ≤ n := by have := G.n1; omega
    have hn8 : n ≤ 8 := by have := G.n2; omega
    have HN := Lib.hid hn
    have HT := Lib.hid (show askI g node = if withinB node 0 (n - 1) = true then 0 else 7 by unfold askI; rw [hm, hn]; rfl)
    have HM := Lib.hid hm
    clear hm hn G
    cases hi : withinB node 0 (n - 1)
    all_goals
      have HI := Lib.hid hi
      clear hi
      go_enter Try.func70, Try.ntmps70
      go_wp2_with (refine wpList_load_cfg rfl _ rfl _ rfl C0 ?_)
      refine (may_any A g _ HA.out).mono ?_
      rintro e w1 ⟨rfl, hb⟩
      rw [HM.out]
      have C1 := C0.later hb
      have c1 := C1.cell 0 (by decide)
      rw [HN.out] at c1
      have HB := Lib.hid hb
      clear hb
      go_wp2_with (fail)
      refine (within_is HI.out _).mono ?_
      rintro e w' ⟨rfl, rfl⟩
      go_wp2_with (fail)
      go_ret
      exact ⟨by rw [HT.out, HI.out]; rfl, ((Below.refl _ _).alloc (Nat.le_refl _) _).trans (HB.out.mono (by simp))⟩

theorem ask_zero {g : Nat → Int} {node : Int} : askI g node = 0 ↔ Good g ∧ 0 ≤ node ∧ node < g 0 := by
  unfold askI
  by_cases hm : mayB g = true
  · rw [if_pos hm]
    by_cases hi : withinB node 0 (g 0 - 1) = true
    · rw [if_pos hi]
      have := of_withinB hi
      exact ⟨fun _ => ⟨(good_iff g).1 hm, by omega, by omega⟩, fun _ => rfl⟩
    · rw [if_neg hi]
      exact ⟨fun h => (by cases h), fun ⟨_, h1, h2⟩ => absurd (decide_eq_true (p := 0 ≤ node ∧ node ≤ g 0 - 1) ⟨h1, by omega⟩) hi⟩
  · rw [if_neg hm]
    exact ⟨fun h => (by cases h), fun ⟨h, _⟩ => absurd ((good_iff g).2 h) hm⟩
theorem ask_cases (g : Nat → Int) (node : Int) : askI g node = 0 ∨ askI g node = 7 ∨ askI g node = 2 := by
  unfold askI
  split
  · split <;> simp
  · simp

/-- First. -/
def firstI (g : Nat → Int) (node : Int) : Int := if askI g node = 0 then sumF g node.toNat else 0
set_option maxRecDepth 100000 in
theorem first_any (A : Array Value) (g : Nat → Int) (node : Int) (w : World) (hA : Cfg A g) :
    Calls Try.prog 57 #[.agg A, .int .i64 node] w fun e w' => e = .returned (.tuple #[.int .i64 (firstI g node), .int .i64 (askI g node)]) ∧ Below w.heap.size w w' := by
  have C0 := CfgAt.new w hA
  have HA := Lib.hid hA
  clear hA
  by_cases h0 : askI g node = 0
  · obtain ⟨G, h1, h2⟩ := ask_zero.1 h0
    obtain ⟨k, rfl⟩ := Int.eq_ofNat_of_zero_le h1
    have hk : k ≤ 8 := by have := G.n2; omega
    have HT := Lib.hid (show firstI g k = sumF g k by unfold firstI; rw [if_pos h0]; rfl)
    have H0 := Lib.hid h0
    have HF := Lib.hid (show ∀ i, i < k → 0 ≤ g (18 + i) ∧ g (18 + i) ≤ 128 from fun i hi => by have := G.frames i (by omega); omega)
    clear h0 G h1 h2
    go_enter Try.func57, Try.ntmps57
    go_wp2_with (refine wpList_load_cfg rfl _ rfl _ rfl C0 ?_)
    refine (asked_any A g k _ HA.out).mono ?_
    rintro e w1 ⟨rfl, hb⟩
    rw [H0.out]
    have C1 := C0.later hb
    have HB := Lib.hid hb
    clear hb
    go_wp2_with (refine wpList_load_cfg rfl _ rfl _ rfl C1 ?_)
    refine (before_any A g k _ HA.out hk HF.out).mono ?_
    rintro e w2 ⟨rfl, hb2⟩
    have HB2 := Lib.hid hb2
    clear hb2
    go_wp2_with (fail)
    go_ret2
    exact ⟨by rw [HT.out, H0.out]; rfl, ((Below.refl _ _).alloc (Nat.le_refl _) _).trans ((HB.out.mono (by simp)).trans (HB2.out.mono (by have := HB.out.size; simp at this ⊢; omega)))⟩
  · have HT := Lib.hid (show firstI g node = 0 by unfold firstI; rw [if_neg h0])
    have hne : (askI g node != 0) = true := by simpa using h0
    generalize hz : askI g node = z at hne h0
    have HZ := Lib.hid hz
    clear hz h0
    go_enter Try.func57, Try.ntmps57
    go_wp2_with (refine wpList_load_cfg rfl _ rfl _ rfl C0 ?_)
    refine (asked_any A g node _ HA.out).mono ?_
    rintro e w1 ⟨rfl, hb⟩
    rw [HZ.out]
    have HB := Lib.hid hb
    clear hb
    go_wp2_with (fail)
    go_ret2
    exact ⟨by rw [HT.out]; rfl, ((Below.refl _ _).alloc (Nat.le_refl _) _).trans (HB.out.mono (by simp))⟩

theorem sumF_mono (g : Nat → Int) (n : Nat) (h : ∀ i, i < n → 0 ≤ g (18 + i)) : ∀ k j, j + k ≤ n → sumF g j ≤ sumF g (j + k)
  | 0, _, _ => Int.le_refl _
  | k + 1, j, hj => by
    have h1 := sumF_mono g n h k j (by omega)
    have h2 := h (j + k) (by omega)
    show sumF g j ≤ sumF g (j + k) + g (18 + (j + k))
    omega
end
/-! A config as a value: its cells one by one; a config stored whole. -/
section
open Go.RowKit Go

/-- The cells of the config g. -/
def ofG (g : Nat → Int) : Array Value := Array.ofFn (n := 94) fun i => Value.int .i64 (g i)
theorem cfg_ofG (g : Nat → Int) : Cfg (ofG g) g := ⟨by simp [ofG], fun i h => by simp [ofG, h]⟩

def updG (g : Nat → Int) (i : Nat) (x : Int) (j : Nat) : Int := if j = i then x else g j
theorem Cfg.set {A : Array Value} {g : Nat → Int} (C : Cfg A g) (i : Nat) (x : Int) : Cfg (A.setIfInBounds i (.int .i64 x)) (updG g i x) := by
  refine ⟨by simp [C.size], fun j hj => ?_⟩
  unfold updG
  by_cases h : j = i
  · subst h
    rw [if_pos rfl, Array.getElem?_setIfInBounds_self_of_lt (by rw [C.size]; exact hj)]
  · rw [if_neg h, Array.getElem?_setIfInBounds_ne (by omega)]
    exact C.get j hj
theorem Cfg.ext {A : Array Value} {g h : Nat → Int} (C : Cfg A g) (e : ∀ i, i < 94 → g i = h i) : Cfg A h := ⟨C.size, fun i hi => by rw [C.get i hi, e i hi]⟩

set_option maxRecDepth 100000 in
/-- A whole config into its block, the last one and the one ahead of it. -/
theorem store_last (w : World) {Z L : Array Value} (hz : Z.size = 94) {g : Nat → Int} (C : Cfg L g) :
    (storeVar 26 ⟨w.heap.size, 0, none⟩ (.agg L)).run Try.prog (w.alloc (.cells Z 26)) = .ok () (w.alloc (.cells L 26)) :=
  run_storeVar_new (P := Try.prog) w 26 Z L (by rw [C.size]; kernel_rfl) (by rw [hz, C.size]) C.one
set_option maxRecDepth 100000 in
theorem store_ahead (w : World) {Z L : Array Value} (ob : Obj) (hz : Z.size = 94) {g : Nat → Int} (C : Cfg L g) :
    (storeVar 26 ⟨w.heap.size, 0, none⟩ (.agg L)).run Try.prog ((w.alloc (.cells Z 26)).alloc ob) = .ok () ((w.alloc (.cells L 26)).alloc ob) := by
  rw [run_storeVar_row _ _ _ _ Z L (heap_alloc2_old w (.cells Z 26) ob) (by rw [C.size]; kernel_rfl) (by rw [hz, C.size]) C.one, setRow_alloc_old _ _ _ _ (by simp), World.setRow_alloc_new]
set_option maxRecDepth 100000 in
theorem cfgInfo {A : Array Value} {g : Nat → Int} (C : Cfg A g) : (Try.prog.info? 26).map (·.size) = some A.size := by rw [C.size]; kernel_rfl
end
/-! zones: the document's New. -/
section
open Go.RowKit Go

/-- The cells of the document's zones. -/
def zmV (g : Nat → Int) (v u : Value) (i : Nat) : Value := if i < 94 then .int .i64 (g i) else if i = 94 then v else u
def zrA (g : Nat → Int) (v u : Value) : Array Value := ((ofG g).push v).push u
theorem zrA_at (g : Nat → Int) (v u : Value) (i : Nat) (h : i < 96) : (zrA g v u)[i]? = some (zmV g v u i) := by
  unfold zrA zmV
  by_cases h1 : i < 94
  · rw [if_pos h1, Array.getElem?_push, if_neg (by simp [ofG]; omega), Array.getElem?_push, if_neg (by simp [ofG]; omega)]
    exact (cfg_ofG g).get i h1
  · rw [if_neg h1]
    by_cases h2 : i = 94
    · subst h2
      rw [if_pos rfl, Array.getElem?_push, if_neg (by simp [ofG]), Array.getElem?_push, if_pos (by simp [ofG])]
    · obtain rfl : i = 95 := by omega
      rw [if_neg (by decide), Array.getElem?_push, if_pos (by simp [ofG])]
theorem load_cfgAt {W : World} {b : Nat} {A : Array Value} {g : Nat → Int} (C : CfgAt W b A g) : (loadVar 26 ⟨b, 0, none⟩).run Try.prog W = .ok (.agg A) W :=
  run_loadVar_row W b 26 _ A (0, 0) _ C.block Try.underlying26 rfl (by rw [C.cfg.size]; kernel_rfl)
/-- The list of the nodes' pointers. -/
def ptrL (bs : Nat → Nat) (k : Nat) : List Value := (List.range k).map fun i => .pointer (some ⟨bs i, 0, none⟩)
theorem ptrL_len (bs : Nat → Nat) (k : Nat) : (ptrL bs k).length = k := by simp [ptrL]
theorem ptrL_one (bs : Nat → Nat) (k r : Nat) : ptrL (updN bs k r) (k + 1) = ptrL bs k ++ [.pointer (some ⟨r, 0, none⟩)] := by
  unfold ptrL
  rw [List.range_succ, List.map_append, List.map_singleton, updN_same]
  congr 1
  refine List.map_congr_left fun i hi => ?_
  rw [updN_other bs (by have := List.mem_range.1 hi; omega)]
/-- Some nodes have been made. -/
structure ZMid (w : World) (r cb rn cn : Nat) (A : Array Value) (g : Nat → Int) (N k : Nat) (bs : Nat → Nat) (v : Value) (wr : World) : Prop where
  row : RowAt wr r 96 (zmV g v (.slice (some ⟨rn, 0, none⟩) (nodL g N).length cn))
  cfg : CfgAt wr cb A g
  own : wr.ownsRow (r + 1) 72 1 v k (ptrL bs k)
  nod : RowAt wr rn (nodL g N).length (fun i => .int .i64 ((nodL g N).getD i 0))
  ref : ∀ i, i < k → ∃ v u, BRef wr (bs i) (frN g i) (newL (frN g i)) [] v u
  inj : ∀ i j, i < k → j < k → bs i = bs j → i = j
  lo : ∀ i, i < k → r < bs i ∧ bs i < wr.heap.size
  bel : Below w.heap.size w wr
  r1 : w.heap.size ≤ r
  cr : cb < r
  nr : rn < r
  lt : r < wr.heap.size
/-- What begins with no number turns. -/
theorem BRef.keep {w w' : World} {r n : Nat} {L T : List (Int × Int)} {v u : Value} {S : Nat → Prop} (R : BRef w r n L T v u) (ho : Only S w w') (hs : ∀ k, S k → ∀ x, w.cell? ⟨k, 0, none⟩ ≠ some (.int .i64 x)) : BRef w' r n L T v u := by
  have key : ∀ {a : Option Addr} {M : List (Int × Int)}, RecsAt w (r + 1) a encB 2 M → RecsAt w' (r + 1) a encB 2 M := fun {a M} hM => by
    refine RecsAt.aside hM ho fun g hg hp => ?_
    obtain ⟨g2, e2, _, _, hr⟩ := hM.get encB_len 0 hp
    rw [hg] at e2
    injection e2 with e2
    injection e2 with e2
    subst e2
    exact fun h => hs _ h _ (hr 0 _ rfl)
  obtain ⟨a, c, e, hf⟩ := R.fr
  obtain ⟨b, d, e2, ht⟩ := R.tk
  exact ⟨R.row.only ho (fun h => hs _ h _ R.c0), ⟨a, c, e, key hf⟩, ⟨b, d, e2, key ht⟩⟩
section
variable {w wr wr' : World} {r cb rn cn : Nat} {A : Array Value} {g : Nat → Int} {N k : Nat} {bs : Nat → Nat} {v : Value}
theorem ZMid.later (M : ZMid w r cb rn cn A g N k bs v wr) (h : Below wr.heap.size wr wr') : ZMid w r cb rn cn A g N k bs v wr' :=
  ⟨M.row.later h, M.cfg.later h, owns_later M.own h, M.nod.later h, fun i hi => by obtain ⟨v, u, B⟩ := M.ref i hi; exact ⟨v, u, B.later h⟩, M.inj, fun i hi => ⟨(M.lo i hi).1, Nat.lt_of_lt_of_le (M.lo i hi).2 h.size⟩,
    M.bel.trans (h.mono (by have := M.r1; have := M.lt; omega)), M.r1, M.cr, M.nr, Nat.lt_of_lt_of_le M.lt h.size⟩
/-- What owns a row of pointers begins with no number. -/
theorem ZMid.own_no (M : ZMid w r cb rn cn A g N k bs v wr) (hk : 0 < k) {j : Nat} (h : v.ownBlock = some j) (x : Int) : wr.cell? ⟨j, 0, none⟩ ≠ some (.int .i64 x) := by
  obtain ⟨a, cap, rfl, hh⟩ := owns_slice M.own
  obtain ⟨q, _, _, ho, B, t, hB, hx⟩ := hh hk
  rw [ho] at h
  injection h with h
  subst h
  rw [cell_of_row _ _ _ _ _ _ hB, hx 0 (by omega)]
  unfold ptrL
  rw [List.getElem?_map, List.getElem?_range (by omega)]
  intro e
  cases e
/-- One node more. -/
theorem ZMid.more (M : ZMid w r cb rn cn A g N k bs v wr) {r2 : Nat} {v2 u2 v3 : Value} (B : BRef wr r2 (frN g k) (newL (frN g k)) [] v2 u2) (hown : wr'.ownsRow (r + 1) 72 1 v3 (k + 1) (ptrL (updN bs k r2) (k + 1))) (ho : Only (fun j => v.ownBlock = some j) wr wr')
    (hlo : ∀ i, i < k → bs i < r2) (hr2 : r < r2) (hj : ∀ j, v.ownBlock = some j → j < r2) : ZMid w r cb rn cn A g N (k + 1) (updN bs k r2) v3 (wr'.setCell ⟨r, 94, none⟩ v3) := by
  have hs : Only (fun j => j = r) wr' (wr'.setCell ⟨r, 94, none⟩ v3) := Only.setCell (S := fun j => j = r) _ ⟨r, 94, none⟩ rfl _
  have hb : ∀ j, v.ownBlock = some j → r + 1 ≤ j := fun j h => (M.own.lt j h).1
  have hcr := M.cr
  have hnr := M.nr
  have hr1 := M.r1
  have hlt := M.lt
  have hB2 : BRef (wr'.setCell ⟨r, 94, none⟩ v3) r2 (frN g k) (newL (frN g k)) [] v2 u2 := (B.only ho (fun j h1 h2 => by have := hj j h2; omega)).only hs (fun j h1 h2 => by omega)
  have hsz : wr.heap.size ≤ (wr'.setCell ⟨r, 94, none⟩ v3).heap.size := Nat.le_trans ho.size hs.size
  refine ⟨?_, ⟨M.cfg.cfg, ?_⟩, owns_only hown hs (fun j h e => by have := (hown.lt j h).1; omega), (M.nod.only ho (fun h => by have := hb _ h; omega)).only hs (by omega), fun i hi => ?_, fun i j hi hj2 e => ?_, fun i hi => ?_, ?_, hr1, hcr, hnr, Nat.lt_of_lt_of_le hlt hsz⟩
  · refine ((M.row.only ho (fun h => by have := hb _ h; omega)).setCell 94 v3).ext fun i hi => ?_
    unfold updV zmV
    by_cases e : i = 94
    · subst e
      rw [if_pos rfl, if_neg (by decide), if_pos rfl]
    · rw [if_neg e, if_neg e, if_neg e]
  · rw [hs.block cb (by have := ho.size; omega) (by omega), ho.block cb (by omega) (fun h => by have := hb _ h; omega)]
    exact M.cfg.block
  · by_cases e : i = k
    · subst e
      rw [updN_same]
      exact ⟨_, _, hB2⟩
    · rw [updN_other bs e]
      obtain ⟨v', u', B'⟩ := M.ref i (by omega)
      exact ⟨v', u', (B'.keep ho (fun j h x => M.own_no (by omega) h x)).only hs (fun j h1 h2 => by have := (M.lo i (by omega)).1; omega)⟩
  · by_cases e1 : i = k
    · by_cases e2 : j = k
      · omega
      · subst e1
        rw [updN_same, updN_other bs e2] at e
        have := hlo j (by omega)
        omega
    · by_cases e2 : j = k
      · subst e2
        rw [updN_same, updN_other bs e1] at e
        have := hlo i (by omega)
        omega
      · rw [updN_other bs e1, updN_other bs e2] at e
        exact M.inj i j (by omega) (by omega) e
  · by_cases e : i = k
    · subst e
      rw [updN_same]
      exact ⟨hr2, hB2.lt⟩
    · rw [updN_other bs e]
      exact ⟨(M.lo i (by omega)).1, Nat.lt_of_lt_of_le (M.lo i (by omega)).2 hsz⟩
  · refine hs.below (ho.below M.bel (by omega) (fun j h => by have := hb j h; omega)) (by have := ho.size; omega) (fun j h => by omega)
end
theorem ptrInfo : (Try.prog.info? 72).map (fun i => (i.zero, i.size, i.bytes)) = some (some (.pointer none), 1, 8) := by kernel_rfl
set_option maxRecDepth 100000 in
set_option maxHeartbeats 4000000 in
theorem znew_any (A : Array Value) (g : Nat → Int) (w : World) (hA : Cfg A g) (hm : mayB g = true) :
    Calls Try.prog 11 #[.agg A] w fun e w' => ∃ Z : ZB, e = .returned (.pointer (some ⟨Z.r, 0, none⟩)) ∧ ZRef w' Z g (fun i => newL (frN g i)) (fun _ => []) ∧ Below w.heap.size w w' ∧ w.heap.size ≤ Z.r ∧ ∀ k, Z.own k → w.heap.size ≤ k := by
  obtain ⟨i0, hi, hz0, hz1', hz2'⟩ := info_parts ptrInfo
  obtain rfl : A = ofG g := Cfg.unique hA (cfg_ofG g)
  have G := (good_iff g).1 hm
  obtain ⟨N, hN⟩ : ∃ N : Nat, g 0 = N := ⟨(g 0).toNat, by have := G.n1; omega⟩
  have hN8 : N ≤ 8 := by have := G.n2; omega
  have hN1 : 1 ≤ N := by have := G.n1; omega
  have C0 := CfgAt.new w hA
  have hB0 : Below w.heap.size w (w.alloc (.cells (ofG g) 26)) := (Below.refl _ _).alloc (Nat.le_refl _) _
  have HB0 := Lib.hid hB0
  have HC0 := Lib.hid C0
  have HG := Lib.hid G
  have HN := Lib.hid hN
  have HA := Lib.hid hA
  have HM := Lib.hid hm
  have hs1 : (w.alloc (.cells (ofG g) 26)).heap.size = w.heap.size + 1 := by simp
  clear hB0 C0 hA hm G hN
  go_enter Try.func11, Try.ntmps11
  go_wp2_with (fail)
  generalize w.alloc (.cells (ofG g) 26) = w1 at *
  have L0 := Lib.hid (show ∀ W, Below w1.heap.size w1 W → (loadVar 26 ⟨w.heap.size, 0, none⟩).run Try.prog W = .ok (.agg (ofG g)) W from fun W hW => load_cfgAt (HC0.out.later hW))
  refine wp_region_lex1 (Below w1.heap.size w1) [(0, false), (1, false), (2, true), (3, false), (4, true), (5, false)]
    (by kernel_rfl) (by kernel_rfl) rfl (by kernel_rfl) ((Below.refl _ w1).drew) ?_
  intro V0 hV0 hK0
  have HK0 := Lib.hid hK0
  clear hV0 hK0
  refine lexH_load rfl rfl _ _ rfl rfl L0.out ?_
  simp only [List.getElem_toArray, List.getElem_cons_zero, Act.put, List.setIfInBounds_toArray, List.set_cons_zero, List.set_cons_succ]
  refine lexH_load rfl rfl _ _ rfl rfl L0.out ?_
  simp only [List.getElem_toArray, List.getElem_cons_succ, List.getElem_cons_zero, Act.put, List.setIfInBounds_toArray, List.set_cons_zero, List.set_cons_succ]
  refine lexH_call 26 #[.agg (ofG g)] rfl rfl ?_ ?_
  focus (go_simp; done)
  refine (refframes_yes (ofG g) g N V0 HA.out HM.out HN.out).mono ?_
  rintro e V1 ⟨v, rfl, hown, hb⟩
  have hpos : 0 < (nodL g N).length := by
    have h1 := frL_length g N (fun i hi => by have := HG.out.frames i (by have := HN.out; omega); omega)
    obtain ⟨Q, e, _⟩ := nodL_split g 1 (N - 1)
    rw [show 1 + (N - 1) = N by omega] at e
    have h2 := HG.out.frames 0 (by have := HN.out; omega)
    have h3 : (nodL g 1).length = (g 18).toNat := by simp [nodL]
    have h4 : g (18 + 0) = g 18 := rfl
    rw [e, List.length_append]
    omega
  obtain ⟨rn, cn, rfl, hg1, hg2, _, hrow⟩ := RowAt.of_owns hown (fun i => .int .i64 ((nodL g N).getD i 0)) (fun i hi => by
    rw [Nat.mul_one] at hi
    rw [List.getElem?_map, List.getD_eq_getElem?_getD, List.getElem?_eq_getElem hi]
    rfl) (fun e => by
    subst e
    obtain ⟨_, ⟨_, h⟩ | ⟨g2, cap2, cur2, h, _⟩⟩ := hown
    · omega
    · cases h)
  rw [Nat.mul_one] at hrow
  have HRN := Lib.hid hrow
  have HB1 := Lib.hid (HK0.out.trans (hb.mono HK0.out.size))
  have hv0 := HK0.out.size
  clear hown hrow hb
  refine ⟨_, rfl, HB1.out, ?_⟩
  simp only [List.getElem_toArray, List.getElem_cons_succ, List.getElem_cons_zero, Act.put, List.setIfInBounds_toArray, List.set_cons_zero, List.set_cons_succ]
  refine lexH_yield (v := .agg (zrA g (.slice none 0 0) (.slice (some ⟨rn, 0, none⟩) (nodL g N).length cn))) rfl rfl (fun V _ => by kernel_rfl) ?_
  simp only [List.getElem_toArray, List.getElem_cons_succ, List.getElem_cons_zero, Act.put, List.setIfInBounds_toArray, List.set_cons_zero, List.set_cons_succ]
  refine lexH_eff rfl rfl ?_
  unfold Oper.wp
  go_simp
  have ha3 : Below V1.heap.size V1 (V1.alloc (.cells (zrA g (.slice none 0 0) (.slice (some ⟨rn, 0, none⟩) (nodL g N).length cn)) 71)) := (Below.refl _ V1).alloc (Nat.le_refl _) _
  have hb3 := HB1.out.trans (ha3.mono HB1.out.size)
  have hz1 := HB1.out.size
  have HMD := Lib.hid (show ZMid w V1.heap.size w.heap.size rn cn (ofG g) g N 0 (fun _ => 0) (.slice none 0 0) (V1.alloc (.cells (zrA g (.slice none 0 0) (.slice (some ⟨rn, 0, none⟩) (nodL g N).length cn)) 71)) from
    ⟨RowAt.new V1 _ _ 96 _ (zrA_at g _ _), HC0.out.later hb3, World.ownsRow_nil _ _ _ _, HRN.out.later ha3, fun i h => absurd h (Nat.not_lt_zero _), fun i j h => absurd h (Nat.not_lt_zero _), fun i h => absurd h (Nat.not_lt_zero _),
      HB0.out.trans (hb3.mono (by omega)), by omega, by omega, hg2, by simp⟩)
  have hz2 : w.heap.size ≤ V1.heap.size := by omega
  refine ⟨by rw [← hs1]; exact hb3, ?_⟩
  clear ha3 hb3 HRN HB1 HK0 L0 hg1 hg2
  generalize V1.alloc (.cells (zrA g (.slice none 0 0) (.slice (some ⟨rn, 0, none⟩) (nodL g N).length cn)) 71) = W3 at *
  generalize V1.heap.size = r at *
  refine lexH_yieldE rfl rfl ?_
  apply Exists.intro
  refine ⟨fun W hW => ?_, ?_⟩
  focus (go_simp; exact rfl)
  simp only [List.getElem_toArray, List.getElem_cons_succ, List.getElem_cons_zero, Act.put, List.setIfInBounds_toArray, List.set_cons_zero, List.set_cons_succ]
  refine lexH_nil ?_
  go_wp2_with (fail)
  go_loopw [4] (fun i wr => ∃ (k : Nat) (bs : Nat → Nat) (v : Value), i = .int .i64 k ∧ k ≤ N ∧ ZMid w r w.heap.size rn cn (ofG g) g N k bs v wr) (fun i _ => N - (intOf i).toNat)
  case atStart => exact ⟨0, _, _, rfl, Nat.zero_le _, HMD.out⟩
  case round =>
    clear HMD
    obtain ⟨k, bs, v, rfl, hk, hM⟩ := hrel
    have HMD := Lib.hid hM
    have c0 : wr.cell? ⟨w.heap.size, 0, none⟩ = some (.int .i64 N) := by rw [hM.cfg.cell 0 (by decide), HN.out]
    clear hM
    by_cases hlt : k < N
    · have hltI : (k : Int) < (N : Int) := by omega
      have hfr := HG.out.frames k (by have := HN.out; omega)
      have hfe : g (18 + k) = (frN g k : Int) := by unfold frN; omega
      have h1f : 1 ≤ frN g k := by omega
      have h2f : frN g k ≤ 128 := by omega
      obtain ⟨va, vc, hve, _⟩ := owns_slice HMD.out.own
      subst hve
      have ck : wr.cell? ⟨w.heap.size, 18 + k, none⟩ = some (.int .i64 (frN g k)) := by rw [HMD.out.cfg.cell (18 + k) (by omega), hfe]
      have hk8 : (k : Int) < 8 := by omega
      have HCK := Lib.hid ck
      clear hfr hfe
      have L0 := Lib.hid (show ∀ W, (RowAt W r 96 (zmV g (.slice va k vc) (.slice (some ⟨rn, 0, none⟩) (nodL g N).length cn)) ∧ W.cell? ⟨w.heap.size, 18 + k, none⟩ = some (.int .i64 (frN g k))) → (loadVar 69 ⟨r, 94, none⟩).run Try.prog W = .ok (.slice va k vc) W from
        fun W hW => run_loadVar_cell (fun _ => by kernel_rfl) (hW.1.cell 94 (by decide)))
      have L1 := Lib.hid (show ∀ W, (RowAt W r 96 (zmV g (.slice va k vc) (.slice (some ⟨rn, 0, none⟩) (nodL g N).length cn)) ∧ W.cell? ⟨w.heap.size, 18 + k, none⟩ = some (.int .i64 (frN g k))) → (loadVar 3 ⟨w.heap.size, 18 + k, none⟩).run Try.prog W = .ok (.int .i64 (frN g k)) W from
        fun W hW => run_loadVar_cell (fun _ => by kernel_rfl) hW.2)
      clear ck
      go_wp2_with (fail)
      clear c0
      refine wp_region_lexF (fun W => RowAt W r 96 (zmV g (.slice va k vc) (.slice (some ⟨rn, 0, none⟩) (nodL g N).length cn)) ∧ W.cell? ⟨w.heap.size, 18 + k, none⟩ = some (.int .i64 (frN g k)))
        [(0, false), (1, false), (2, false), (3, false), (4, false), (5, false), (6, false), (7, false), (8, false), (9, true), (10, true), (11, true), (12, false), (13, false)] 14
        (by kernel_rfl) (by kernel_rfl) rfl (by kernel_rfl) ⟨HMD.out.row.later (Below.refl _ wr).drew, HCK.out⟩ ?_
      intro W0 hW0 hK0
      have HK0 := Lib.hid hK0
      have HD0 := Lib.hid (show Below wr.heap.size wr W0 by rw [hW0]; exact (Below.refl _ wr).drew)
      clear hW0 hK0
      refine lexH_yieldE rfl rfl ?_
      apply Exists.intro
      refine ⟨fun W hW => ?_, ?_⟩
      focus (go_simp; exact rfl)
      simp only [List.getElem_toArray, List.getElem_cons_zero, Act.put, List.setIfInBounds_toArray, List.set_cons_zero, List.set_cons_succ]
      refine lexH_yieldE rfl rfl ?_
      apply Exists.intro
      refine ⟨fun W hW => ?_, ?_⟩
      focus (go_simp; exact rfl)
      simp only [List.getElem_toArray, List.getElem_cons_succ, List.getElem_cons_zero, Act.put, List.setIfInBounds_toArray, List.set_cons_zero, List.set_cons_succ]
      refine lexH_yieldE rfl rfl ?_
      apply Exists.intro
      refine ⟨fun W hW => ?_, ?_⟩
      focus (go_simp; exact rfl)
      simp only [List.getElem_toArray, List.getElem_cons_succ, List.getElem_cons_zero, Act.put, List.setIfInBounds_toArray, List.set_cons_zero, List.set_cons_succ]
      refine lexH_yieldE rfl rfl ?_
      apply Exists.intro
      refine ⟨fun W hW => ?_, ?_⟩
      focus (go_simp; exact rfl)
      simp only [List.getElem_toArray, List.getElem_cons_succ, List.getElem_cons_zero, Act.put, List.setIfInBounds_toArray, List.set_cons_zero, List.set_cons_succ]
      refine lexH_load rfl rfl _ _ rfl rfl L0.out ?_
      simp only [List.getElem_toArray, List.getElem_cons_succ, List.getElem_cons_zero, Act.put, List.setIfInBounds_toArray, List.set_cons_zero, List.set_cons_succ]
      refine lexH_yieldE rfl rfl ?_
      apply Exists.intro
      refine ⟨fun W hW => ?_, ?_⟩
      focus (go_simp; exact rfl)
      simp only [List.getElem_toArray, List.getElem_cons_succ, List.getElem_cons_zero, Act.put, List.setIfInBounds_toArray, List.set_cons_zero, List.set_cons_succ]
      refine lexH_yieldE rfl rfl ?_
      apply Exists.intro
      refine ⟨fun W hW => ?_, ?_⟩
      focus (go_simp; exact rfl)
      simp only [List.getElem_toArray, List.getElem_cons_succ, List.getElem_cons_zero, Act.put, List.setIfInBounds_toArray, List.set_cons_zero, List.set_cons_succ]
      refine lexH_yieldE rfl rfl ?_
      apply Exists.intro
      refine ⟨fun W hW => ?_, ?_⟩
      focus (go_simp; exact rfl)
      simp only [List.getElem_toArray, List.getElem_cons_succ, List.getElem_cons_zero, Act.put, List.setIfInBounds_toArray, List.set_cons_zero, List.set_cons_succ]
      refine lexH_load rfl rfl _ _ rfl rfl L1.out ?_
      simp only [List.getElem_toArray, List.getElem_cons_succ, List.getElem_cons_zero, Act.put, List.setIfInBounds_toArray, List.set_cons_zero, List.set_cons_succ]
      refine lexH_call 27 #[.int .i64 (frN g k)] rfl rfl ?_ ?_
      focus (go_simp; done)
      refine (bnew_any (frN g k) h1f h2f W0).mono ?_
      rintro e W1 ⟨r2, v2, u2, rfl, hR, hr2, hb1⟩
      have hb01 := HD0.out.trans (hb1.mono HD0.out.size)
      have hk2 : k + 1 ≤ 100 := by omega
      have HR2 := Lib.hid hR
      have hlo2 : wr.heap.size ≤ r2 := Nat.le_trans HD0.out.size hr2
      have hck1 : W1.cell? ⟨w.heap.size, 18 + k, none⟩ = some (.int .i64 (frN g k)) := by rw [hb01.cell (World.block_lt_of_cell? _ _ HCK.out)]; exact HCK.out
      refine ⟨_, rfl, ⟨HMD.out.row.later hb01, hck1⟩, ?_⟩
      simp only [List.getElem_toArray, List.getElem_cons_succ, List.getElem_cons_zero, Act.put, List.setIfInBounds_toArray, List.set_cons_zero, List.set_cons_succ]
      refine lexH_eff rfl rfl ?_
      unfold Oper.wp
      go_simp
      have ha : Below W1.heap.size W1 (W1.alloc (.cells #[.pointer (some ⟨r2, 0, none⟩)] 72)) := (Below.refl _ W1).alloc (Nat.le_refl _) _
      have hb02 := hb01.trans (ha.mono hb01.size)
      have HM2 := Lib.hid (HMD.out.later hb02)
      have HR3 := Lib.hid (HR2.out.later ha)
      have hck2 : (W1.alloc (.cells #[.pointer (some ⟨r2, 0, none⟩)] 72)).cell? ⟨w.heap.size, 18 + k, none⟩ = some (.int .i64 (frN g k)) := by rw [hb02.cell (World.block_lt_of_cell? _ _ HCK.out)]; exact HCK.out
      have HCK2 := Lib.hid hck2
      refine ⟨⟨HM2.out.row, hck2⟩, ?_⟩
      clear ha hb01 hb02 hck1 hck2 hR hb1 HD0 HK0
      refine lexH_append_src _ rfl rfl _ _ 69 rfl (r + 1) 72 i0 _ 1 8 Try.underlying69 hi hz0 hz1' hz2' rfl (by decide) _ _ _ HM2.out.own (by have := HM2.out.lt; omega) (some ⟨W1.heap.size, 0, none⟩) 1 1 [.pointer (some ⟨r2, 0, none⟩)] rfl rfl rfl ?q5 (fun u hu => by
        rw [List.mem_singleton] at hu
        subst hu
        rfl) ?q6 (by decide) ?_
      case q5 =>
        refine fun _ => ⟨_, rfl, fun q u hq => ?_⟩
        rw [Addr.add_lit, Nat.zero_add, cell_of_row _ _ _ _ _ _ (heap_alloc_new W1 _)]
        simpa using hq
      case q6 => omega
      intro v3 W3' hown3 ho3 _
      have hck3 : W3'.cell? ⟨w.heap.size, 18 + k, none⟩ = some (.int .i64 (frN g k)) := ho3.cell (fun h => by have := (HM2.out.own.lt _ h).1; have := HM2.out.cr; omega) HCK2.out
      refine ⟨⟨HM2.out.row.only ho3 (fun h => by have := (HM2.out.own.lt _ h).1; omega), hck3⟩, ?_⟩
      have HM3 := Lib.hid (HM2.out.more HR3.out (by rw [← ptrL_one] at hown3; exact hown3) ho3 (fun i hi => Nat.lt_of_lt_of_le (HMD.out.lo i hi).2 hlo2) (Nat.lt_of_lt_of_le HMD.out.lt hlo2) (fun j h => Nat.lt_of_lt_of_le (HMD.out.own.lt j h).2 hlo2))
      have HRW := Lib.hid (HM2.out.row.only ho3 (fun h => by have := (HM2.out.own.lt _ h).1; omega))
      clear hown3 ho3 hck3 HCK2 L0 L1
      simp only [List.getElem_toArray, List.getElem_cons_succ, List.getElem_cons_zero, Act.put, List.setIfInBounds_toArray, List.set_cons_zero, List.set_cons_succ]
      refine lexH_yieldE rfl rfl ?_
      apply Exists.intro
      refine ⟨fun W hW => ?_, ?_⟩
      focus (go_simp; exact rfl)
      simp only [List.getElem_toArray, List.getElem_cons_succ, List.getElem_cons_zero, Act.put, List.setIfInBounds_toArray, List.set_cons_zero, List.set_cons_succ]
      refine lexH_yieldE rfl rfl ?_
      apply Exists.intro
      refine ⟨fun W hW => ?_, ?_⟩
      focus (go_simp; exact rfl)
      simp only [List.getElem_toArray, List.getElem_cons_succ, List.getElem_cons_zero, Act.put, List.setIfInBounds_toArray, List.set_cons_zero, List.set_cons_succ]
      refine lexH_last rfl rfl ?_
      have c94 : W3'.cell? ⟨r, 94, none⟩ = some (.slice va k vc) := HRW.out.cell 94 (by decide)
      have f94 : W3'.frozen? ⟨r, 94, none⟩ = false := HRW.out.frozen 94
      obtain ⟨va3, vc3, hve3, _⟩ := owns_slice HM3.out.own
      subst hve3
      unfold Oper.wp
      go_simp
      clear c94 f94
      go_wp2_with (fail)
      go_roundw
      case rel => exact ⟨k + 1, _, _, by go_num, hlt, HM3.out⟩
      case measure => simp [intOf]; omega
    · obtain rfl : k = N := by omega
      go_wp2_with (fail)
      go_ret
      have M := HMD.out
      obtain ⟨rb, cb, hve, _, _, _, hrow⟩ := RowAt.of_owns M.own (fun i => .pointer (some ⟨bs i, 0, none⟩)) (fun i hi => by
        rw [Nat.mul_one] at hi
        unfold ptrL
        rw [List.getElem?_map, List.getElem?_range hi]; rfl) (fun e => by
        have h := M.own
        rw [e] at h
        obtain ⟨_, ⟨_, h⟩ | ⟨g2, cap2, cur2, h, _⟩⟩ := h
        · omega
        · cases h)
      rw [Nat.mul_one] at hrow
      subst hve
      refine ⟨⟨r, rb, rn, cb, cn, k, bs⟩, rfl, ⟨M.row, hrow, M.nod, M.ref, M.inj, HG.out, HN.out⟩, M.bel, M.r1, ?_⟩
      rintro j ⟨i, hi, rfl⟩
      have := (M.lo i hi).1
      have := M.r1
      show w.heap.size ≤ bs i
      omega
end
end Go.Proofs.Ytdpnmjlapgldgaa
