/-
  buddy: Take.
-/
import Derived.Test.YtilcdnkjfbkpnaaBuLeast
import Derived.Test.YtilcdnkjfbkpnaaLexH
namespace Go.Proofs.Ytilcdnkjfbkpnaa
open Go.RowKit Go Go.Maps

section
variable {P : Program} {ops : Array Oper} {Q : Exit → Act → World → Prop} {S : World → Prop} {K : Act → World → Prop} {i : Nat} {r : List (Nat × Bool)} {a : Act}
/-- 'delete(m, x)' in a region that draws its order. -/
theorem lexH_drop {w : World} {o : Oper} (hi : ops[i]? = some o) (hw : Region.wanted o (yielded ops a.tmps) = true) (m y : Operand) (t k : TypeId) (ho : o.op = Op.call { callee := Callee.builtin Builtin.delete, args := #[m, y], argTypes := #[t, k] })
    (e : TypeId) (hk : P.underlying k = some (.int .i64)) (ht : P.underlying t = some (.map k e)) {R : Value → Option (MDat × List MemPlace)} {α : Type} (E : Elem R α) (b : Nat) (f : Int → Option α)
    (hm : a.eval m = .map (some b)) (hown : FMap P k E w b f) (x : Int) (hy : a.eval y = .int .i64 x) (hx : (Lit.int .i64 x).wf = true)
    (h : ∀ w', FMap P k E w' b (fcut f x) → Only (fun j => j = b) w w' → S w' ∧ LexH P ops Q S K r (a.put o.dst (.tuple #[])) w') : LexH P ops Q S K ((i, true) :: r) a w := by
  refine lexH_eff hi hw ?_
  obtain ⟨w', hrun, r1, r2⟩ := IMap.drop hk ht hx hown o.type
  rw [cut_map] at r1
  unfold Oper.wp execOp
  simp only [ho, resolve, invoke, builtin, Sem.run_bind, Sem.run_pure, Result.andThen_ok, List.map_toArray, List.map_cons, List.map_nil, hm, hy, hrun]
  exact h w' r1 r2
end

/-- A node as the document has it. -/
structure Inv (n : Nat) (L T : List (Int × Int)) : Prop where
  n1 : 1 ≤ n
  n2 : n ≤ 128
  stk : Stk n (memL L) (memL T)
  ris : Rising L
  nat : NatL L
  natT : NatL T
section
variable {n : Nat} {L T : List (Int × Int)}
theorem Inv.ten (I : Inv n L T) : ∀ p ∈ L, ∃ a o : Nat, p = ((a : Int), (o : Int)) ∧ o ≤ 10 := fun p hp => by
  obtain ⟨a, o, rfl⟩ := I.nat p hp
  exact ⟨a, o, rfl, (I.stk.al o a (.inl hp)).1⟩
theorem tkL_add {T : List (Int × Int)} {y o : Int} (h : tkL T y = none) : tkL (T ++ [(y, o)]) = fput (tkL T) y o := by
  funext z
  unfold fput
  unfold tkL at *
  rw [List.find?_append]
  by_cases e : z = y
  · subst e
    rw [if_pos rfl]
    rw [Option.map_eq_none_iff] at h
    rw [h]
    simp
  · rw [if_neg e]
    have : ([(y, o)] : List (Int × Int)).find? (fun p => p.1 == z) = none := by
      have e2 : ¬ y = z := fun h => e h.symm
      simp [e2]
    rw [this, Option.or_none]
theorem cutA_in (high : Bool) (od d x : Nat) : inB (od + d) x (cutA high od d x) := by
  unfold cutA inB
  have h1 := Nat.one_le_two_pow (n := od)
  have h2 : 2 ^ od ≤ 2 ^ (od + d) := Nat.pow_le_pow_right (by decide) (by omega)
  split <;> omega
theorem tkL_in {T : List (Int × Int)} (h : ∀ p ∈ T, 0 ≤ p.1 ∧ p.1 < 128) : ∀ x, (tkL T x).isSome = true → 0 ≤ x ∧ x < (128 : Nat) := fun x hx => by
  obtain ⟨o, ho⟩ := Option.isSome_iff_exists.1 hx
  exact h _ (tkL_some ho)
theorem ok_int {x : Int} (h : -9223372036854775808 ≤ x ∧ x ≤ 9223372036854775807) : EI.ok x := int_wf h
/-- What Take comes to, where a block is picked. -/
theorem inv_take (I : Inv n L T) {od x q : Nat} {high : Bool} (ho : od ≤ 10) (hp : Pick L (od : Int) high ((x : Int), (q : Int))) :
    ∃ y : Nat, (splitL high od (q - od) (dropL L ((x : Int), (q : Int))) (x : Int)).2 = (y : Int) ∧ takeS L T (od : Int) high = ((y : Int), 0, (splitL high od (q - od) (dropL L ((x : Int), (q : Int))) (x : Int)).1, T ++ [((y : Int), (od : Int))])
      ∧ Inv n (splitL high od (q - od) (dropL L ((x : Int), (q : Int))) (x : Int)).1 (T ++ [((y : Int), (od : Int))]) ∧ y < n ∧ tkL T (y : Int) = none ∧ od ≤ q ∧ q ≤ 10 ∧ x % 2 ^ q = 0 ∧ x + 2 ^ q ≤ n := by
  have hF : memL L q x := hp.1
  obtain ⟨hq, hal, hfit⟩ := I.stk.al q x (.inl hF)
  have hoq : od ≤ q := by have := hp.2.1; omega
  have hd : od + (q - od) = q := by omega
  obtain ⟨p1, p2⟩ := pick_is I.ris hp
  have S2 := I.stk.out (F' := memL (dropL L ((x : Int), (q : Int)))) (T' := fun o a => memL T o a ∨ (o = q ∧ a = x)) hF (fun o a => memL_drop o a) (fun o a => Iff.rfl)
  obtain ⟨e1, S3, R3, N3⟩ := split_stk (high := high) (od := od) (q - od) _ x _ S2 (by rw [hd]; exact .inr ⟨rfl, rfl⟩) (I.ris.dropL _) (I.nat.drop _)
  have hin := cutA_in high od (q - od) x
  generalize cutA high od (q - od) x = y at *
  rw [hd] at hin S3
  have hT : ∀ o a, ((memL T o a ∨ (o = q ∧ a = x)) ∧ ¬ (o = q ∧ a = x)) ∨ (o = od ∧ a = y) ↔ memL (T ++ [((y : Int), (od : Int))]) o a := fun o a => by
    unfold memL
    rw [List.mem_append, List.mem_singleton, Prod.mk.injEq]
    constructor
    · rintro (⟨h | h, h2⟩ | ⟨rfl, rfl⟩)
      · exact .inl h
      · exact absurd h h2
      · exact .inr ⟨rfl, rfl⟩
    · rintro (h | ⟨h1, h2⟩)
      · refine .inl ⟨.inl h, fun e => ?_⟩
        obtain ⟨rfl, rfl⟩ := e
        exact I.stk.dis _ _ hF h
      · exact .inr ⟨by omega, by omega⟩
  rw [set_eq hT] at S3
  refine ⟨y, e1, ?_, ⟨I.n1, I.n2, S3, R3, N3, fun p hp => ?_⟩, ?_, tkL_none.2 fun o h => ?_, hoq, hq, hal, hfit⟩
  · unfold takeS
    rw [if_pos ⟨by omega, by omega⟩, if_neg p1, p2]
    simp only [Int.toNat_natCast]
    rw [e1]
  · rcases List.mem_append.1 hp with h | h
    · exact I.natT p h
    · rw [List.mem_singleton] at h
      exact ⟨y, od, h⟩
  · have := hin.2
    omega
  · obtain ⟨a, o2, h2⟩ := I.natT _ h
    rw [Prod.mk.injEq] at h2
    obtain ⟨h3, rfl⟩ := h2
    obtain rfl : a = y := by omega
    obtain ⟨rfl, rfl⟩ := I.stk.ap q x o2 a a (.inl hF) (.inr h) hin (self_in _ _)
    exact I.stk.dis _ _ hF h
theorem inv_same (I : Inv n L T) {order : Int} {high : Bool} (h : takeS L T order high = (0, 6, L, T) ∨ takeS L T order high = (0, 2, L, T)) : Inv n (takeS L T order high).2.2.1 (takeS L T order high).2.2.2 := by
  rcases h with h | h <;> (rw [h]; exact I)
/-- One of both. -/
theorem pick_or (I : Inv n L T) (od : Nat) (high : Bool) : (∃ x q : Nat, Pick L (od : Int) high ((x : Int), (q : Int))) ∨ ∀ p ∈ L, ¬ (od : Int) ≤ p.2 := by
  rcases pick_spec L (od : Int) high L.length with ⟨_, h⟩ | ⟨j, h1, h2, h3, h4⟩
  · refine .inr fun p hp => ?_
    obtain ⟨i, hi, rfl⟩ := List.mem_iff_getElem.1 hp
    have := h i hi
    rw [getD_at hi] at this
    omega
  · rw [getD_at h2] at h3 h4
    obtain ⟨a, o, e⟩ := I.nat _ (List.getElem_mem h2)
    refine .inl ⟨a, o, ?_⟩
    rw [← e]
    refine ⟨List.getElem_mem h2, h3, fun p hp hle => ?_, fun p hp e2 => ?_⟩
    · obtain ⟨i, hi, rfl⟩ := List.mem_iff_getElem.1 hp
      have := (h4 i hi (by rw [getD_at hi]; exact hle)).1
      rwa [getD_at hi] at this
    · obtain ⟨i, hi, rfl⟩ := List.mem_iff_getElem.1 hp
      have := (h4 i hi (by rw [getD_at hi]; omega)).2
      rw [getD_at hi] at this
      have := this e2
      cases high with
      | true => rw [if_pos rfl] at this ⊢; exact (I.ris.index hi h2).1 this
      | false => rw [if_neg (by decide)] at this ⊢; exact (I.ris.index h2 hi).1 this
/-- Behind Take a node is one. -/
theorem Inv.take (I : Inv n L T) (order : Int) (high : Bool) : Inv n (takeS L T order high).2.2.1 (takeS L T order high).2.2.2 := by
  by_cases ho : 0 ≤ order ∧ order ≤ 10
  · obtain ⟨od, rfl⟩ : ∃ od : Nat, order = od := ⟨order.toNat, by omega⟩
    rcases pick_or I od high with ⟨x, q, hp⟩ | hp
    · obtain ⟨y, _, e, J, _⟩ := inv_take I (by omega) hp
      rw [e]
      exact J
    · refine inv_same I (.inl ?_)
      unfold takeS
      rw [if_pos ho, pick_none hp, if_pos (by decide)]
  · refine inv_same I (.inr ?_)
    unfold takeS
    rw [if_neg ho]
end
section
variable {w : World} {d n : Nat} {mb : Nat → Nat} {tb : Nat} {L T : List (Int × Int)}
def Take6 (w : World) (d n : Nat) (mb : Nat → Nat) (tb : Nat) (L T : List (Int × Int)) (order : Int) (high : Bool) (e : Ending) (w' : World) : Prop :=
  e = .returned (.tuple #[.int .i64 (takeS L T order high).1, .int .i64 (takeS L T order high).2.1]) ∧ NodeAt w' d n mb tb (takeS L T order high).2.2.1 (takeS L T order high).2.2.2 ∧ Only (own6 mb tb) w w'
theorem Take6.same (N : NodeAt w d n mb tb L T) {w' : World} (hb : Below w.heap.size w w') {order : Int} {high : Bool} {k : Int} (h : takeS L T order high = (0, k, L, T)) : Take6 w d n mb tb L T order high (.returned (.tuple #[.int .i64 0, .int .i64 k])) w' := by
  unfold Take6
  rw [h]
  exact ⟨rfl, N.later hb, Only.of_below hb⟩
set_option maxRecDepth 100000 in
set_option maxHeartbeats 2000000 in
theorem take6_any (N : NodeAt w d n mb tb L T) (I : Inv n L T) (order : Int) (high : Bool) :
    Calls Try.prog 13 #[.pointer (some ⟨d, 0, none⟩), .int .i64 order, .bool high] w (Take6 w d n mb tb L T order high) := by
  by_cases ho : 0 ≤ order ∧ order ≤ 10
  · obtain ⟨od, rfl⟩ : ∃ od : Nat, order = od := ⟨order.toNat, by omega⟩
    obtain ⟨_, ho2⟩ := ho
    have ho3 : od ≤ 10 := by omega
    have g1 : ¬ ((od : Int) < 0) := by omega
    have g2 : ¬ (10 < (od : Int)) := by omega
    have HN := Lib.hid N
    go_enter Try.func13, Try.ntmps13
    go_wp2_with (fail)
    refine (missing_any HN.out I.n1).mono ?_
    rintro e w' ⟨rfl, rfl⟩
    go_wp2_with (fail)
    refine (least_any HN.out I.ten ho3 high).mono ?_
    rintro e w1 ⟨hb1, ⟨x, q, hp, rfl⟩ | ⟨hp, rfl⟩⟩
    · obtain ⟨y, hy, hT, J, hyn, hnone, hoq, hq, hal, hfit⟩ := inv_take I ho3 hp
      have hn2 := I.n2
      have hpw := Nat.one_le_two_pow (n := q)
      have hx128 : x < 128 := by omega
      have hx2 : x + 2 ^ q ≤ 128 := by omega
      have ha : Below w1.heap.size w1 (w1.alloc (.cells #[.int .i64 x, .int .i64 q] 42)) := (Below.refl _ w1).alloc (Nat.le_refl _) _
      have HB2 := Lib.hid (hb1.trans (ha.mono hb1.size))
      have HN2 := Lib.hid (N.later HB2.out)
      have HX2 := Lib.hid (block_row w1 x q)
      have HST := Lib.hid (store_block w1 #[.int .i64 0, .int .i64 0] rfl x q)
      have HJ := Lib.hid J
      have HT := Lib.hid hT
      have HY := Lib.hid hy
      have HNO := Lib.hid hnone
      have HP := Lib.hid hp
      have HAL := Lib.hid hal
      clear hb1 ha J hT hy hnone hp hal I N HN
      go_wp2_with (refine wpList_store_run rfl 42 _ _ rfl w1.heap.size _ _ rfl rfl HST.out ?_)
      clear HST
      generalize w1.heap.size = xb at *
      generalize w1.alloc (.cells #[.int .i64 x, .int .i64 q] 42) = w2 at *
      have L1 := Lib.hid (show ∀ W, RowAt W d 13 (ndV n mb tb) ∧ RowAt W xb 2 (blkV x q) → (loadVar 3 ⟨xb, 1, none⟩).run Try.prog W = .ok (.int .i64 q) W from
        fun W hW => run_loadVar_cell (fun _ => by kernel_rfl) (hW.2.cell 1 (by decide)))
      have L0 := Lib.hid (show ∀ W, RowAt W d 13 (ndV n mb tb) ∧ RowAt W xb 2 (blkV x q) → (loadVar 3 ⟨xb, 0, none⟩).run Try.prog W = .ok (.int .i64 x) W from
        fun W hW => run_loadVar_cell (fun _ => by kernel_rfl) (hW.2.cell 0 (by decide)))
      have L2 := Lib.hid (show ∀ W, RowAt W d 13 (ndV n mb tb) ∧ RowAt W xb 2 (blkV x q) → (loadVar 45 ⟨d, 1 + q, none⟩).run Try.prog W = .ok (.map (some (mb q))) W from
        fun W hW => run_loadVar_cell (fun _ => by kernel_rfl) (by
          have h := hW.1.cell (1 + q) (by omega)
          unfold ndV at h
          rw [if_neg (by omega), if_neg (by omega), Nat.add_sub_cancel_left] at h
          exact h))
      go_wp2_with (fail)
      refine wp_region_lex1 (fun W => RowAt W d 13 (ndV n mb tb) ∧ RowAt W xb 2 (blkV x q)) [(0, false), (1, false), (2, false), (3, false), (4, false), (5, false), (6, false), (7, false), (8, false), (9, true)]
        (by kernel_rfl) (by kernel_rfl) rfl (by kernel_rfl) ⟨HN2.out.row.later (Below.refl _ w2).drew, HX2.out.later (Below.refl _ w2).drew⟩ ?_
      intro W0 hW0 hK0
      have HN3 := Lib.hid (show NodeAt W0 d n mb tb L T by rw [hW0]; exact HN2.out.later (Below.refl _ w2).drew)
      have HB3 := Lib.hid (show Below w.heap.size w W0 by rw [hW0]; exact HB2.out.trans ((Below.refl _ w2).drew))
      have HX3 := Lib.hid hK0.2
      clear hW0 hK0 HN2 HX2 HB2
      refine lexH_yieldE rfl rfl ?_
      apply Exists.intro
      refine ⟨fun W hW => ?_, ?_⟩
      focus (go_simp; exact rfl)
      simp only [List.getElem_toArray, List.getElem_cons_zero, Act.put, List.setIfInBounds_toArray, List.set_cons_zero, List.set_cons_succ]
      refine lexH_yieldE rfl rfl ?_
      apply Exists.intro
      refine ⟨fun W hW => ?_, ?_⟩
      focus (go_simp; exact rfl)
      simp only [List.getElem_toArray, List.getElem_cons_succ, List.getElem_cons_zero, Act.put, List.setIfInBounds_toArray, List.set_cons_zero, List.set_cons_succ]
      refine lexH_load rfl rfl _ _ rfl rfl L1.out ?_
      simp only [List.getElem_toArray, List.getElem_cons_succ, List.getElem_cons_zero, Act.put, List.setIfInBounds_toArray, List.set_cons_zero, List.set_cons_succ]
      refine lexH_yieldE rfl rfl ?_
      apply Exists.intro
      refine ⟨fun W hW => ?_, ?_⟩
      focus (go_simp; exact rfl)
      simp only [List.getElem_toArray, List.getElem_cons_succ, List.getElem_cons_zero, Act.put, List.setIfInBounds_toArray, List.set_cons_zero, List.set_cons_succ]
      refine lexH_yieldE rfl rfl ?_
      apply Exists.intro
      refine ⟨fun W hW => ?_, ?_⟩
      focus (go_simp; exact rfl)
      simp only [List.getElem_toArray, List.getElem_cons_succ, List.getElem_cons_zero, Act.put, List.setIfInBounds_toArray, List.set_cons_zero, List.set_cons_succ]
      refine lexH_yieldE rfl rfl ?_
      apply Exists.intro
      refine ⟨fun W hW => ?_, ?_⟩
      focus (go_simp; rw [if_pos (by omega)])
      simp only [List.getElem_toArray, List.getElem_cons_succ, List.getElem_cons_zero, Act.put, List.setIfInBounds_toArray, List.set_cons_zero, List.set_cons_succ]
      refine lexH_load rfl rfl _ _ rfl rfl L2.out ?_
      simp only [List.getElem_toArray, List.getElem_cons_succ, List.getElem_cons_zero, Act.put, List.setIfInBounds_toArray, List.set_cons_zero, List.set_cons_succ]
      refine lexH_yieldE rfl rfl ?_
      apply Exists.intro
      refine ⟨fun W hW => ?_, ?_⟩
      focus (go_simp; exact rfl)
      simp only [List.getElem_toArray, List.getElem_cons_succ, List.getElem_cons_zero, Act.put, List.setIfInBounds_toArray, List.set_cons_zero, List.set_cons_succ]
      refine lexH_load rfl rfl _ _ rfl rfl L0.out ?_
      simp only [List.getElem_toArray, List.getElem_cons_succ, List.getElem_cons_zero, Act.put, List.setIfInBounds_toArray, List.set_cons_zero, List.set_cons_succ]
      refine lexH_drop rfl rfl _ _ _ _ rfl 76 Try.underlying3 Try.underlying45 EU (mb q) (frL L q) rfl (HN3.out.free q (by omega)) x rfl (int_wf (by omega)) ?_
      intro w4 h1 h2
      have HX4 := Lib.hid (HX3.out.only h2 (fun e => map_row (HN3.out.free q (by omega)) HX3.out e.symm))
      have HN4 := Lib.hid (HN3.out.setF (o := q) (L' := dropL L ((x : Int), (q : Int))) (by omega) h1 h2 (by rw [frL_drop, if_pos rfl]) (fun p hp => by rw [frL_drop, if_neg hp]) (fun p hp => HN3.out.bnd p (mem_dropL.1 hp).1))
      have HO4 := Lib.hid (show Only (own6 mb tb) w w4 from (Only.of_below HB3.out).trans (h2.mono fun k hk => .inr ⟨q, by omega, hk⟩))
      refine ⟨⟨HN4.out.row, HX4.out⟩, ?_⟩
      clear h1 h2 HX3 HN3 HB3 L0 L1 L2
      simp only [List.getElem_toArray, List.getElem_cons_succ, List.getElem_cons_zero, Act.put]
      refine lexH_nil ?_
      have c0 : w4.cell? ⟨xb, 0, none⟩ = some (.int .i64 x) := HX4.out.cell 0 (by decide)
      have c1 : w4.cell? ⟨xb, 1, none⟩ = some (.int .i64 q) := HX4.out.cell 1 (by decide)
      go_wp2_with (fail)
      refine (cut_any HN4.out hq hoq HAL.out hx2 high).mono ?_
      rintro e w5 ⟨rfl, hN5, ho5⟩
      rw [HY.out]
      have HN5 := Lib.hid hN5
      have HO5 := Lib.hid (HO4.out.trans (ho5.mono fun k hk => .inr hk))
      clear hN5 ho5 HN4 HO4 c0 c1 HX4
      have c12 := HN5.out.c12
      go_wp2_with (first | (at_mapUpdate; (refine wpList_store_fmap rfl _ _ _ _ rfl 3 3 Try.underlying3 Try.underlying47 EI tb (tkL T) rfl HN5.out.tkn y rfl (int_wf (by omega)) 128 (tkL_in HN5.out.tbnd) (by decide) od rfl (ok_int (by omega)) ?_; intro w6 h3 h4)) | fail)
      have HF := Lib.hid (show Take6 w d n mb tb L T (od : Int) high (.returned (.tuple #[.int .i64 y, .int .i64 0])) w6 by
        unfold Take6
        rw [HT.out]
        refine ⟨rfl, HN5.out.setT h3 h4 (tkL_add HNO.out) (fun p hp => ?_), HO5.out.trans (h4.mono fun k hk => .inl hk)⟩
        rcases List.mem_append.1 hp with h | h
        · exact HN5.out.tbnd p h
        · rw [List.mem_singleton] at h
          subst h
          exact ⟨by omega, by show (y : Int) < 128; omega⟩)
      clear h3 h4
      go_wp2_with (fail)
      go_ret2
      exact HF.out
    · have HF := Lib.hid (Take6.same (high := high) N (hb1.trans (((Below.refl _ w1).alloc (Nat.le_refl _) (.cells #[.int .i64 0, .int .i64 0] 42)).mono hb1.size)) (show takeS L T (od : Int) high = (0, 6, L, T) by
        unfold takeS
        rw [if_pos ⟨by omega, ho2⟩, pick_none hp, if_pos (by decide)]))
      clear hp hb1
      go_wp2_with (fail)
      go_ret2
      exact HF.out
  · have HF := Lib.hid (Take6.same N (Below.refl _ w) (show takeS L T order high = (0, 2, L, T) by unfold takeS; rw [if_neg ho]))
    by_cases h1 : order < 0
    · go_enter Try.func13, Try.ntmps13
      go_wp2_with (fail)
      refine (missing_any N I.n1).mono ?_
      rintro e w' ⟨rfl, rfl⟩
      go_wp2_with (fail)
      go_ret2
      exact HF.out
    · have h2 : 10 < order := by omega
      go_enter Try.func13, Try.ntmps13
      go_wp2_with (fail)
      refine (missing_any N I.n1).mono ?_
      rintro e w' ⟨rfl, rfl⟩
      go_wp2_with (fail)
      go_ret2
      exact HF.out
end
end Go.Proofs.Ytilcdnkjfbkpnaa
