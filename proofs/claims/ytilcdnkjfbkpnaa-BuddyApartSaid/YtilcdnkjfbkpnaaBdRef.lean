/-
  buddy's document: drop, put, New.
-/
import Derived.Test.YtilcdnkjfbkpnaaRec
import Derived.Test.YtilcdnkjfbkpnaaLexApp
import Derived.Laws.AppendOwn
namespace Go.Proofs.Ytilcdnkjfbkpnaa
open Go.RowKit Go

theorem info_parts {o : Option TypeInfo} {z : Option Value} {s b : Nat} (h : o.map (fun i => (i.zero, i.size, i.bytes)) = some (z, s, b)) : ∃ i, o = some i ∧ i.zero = z ∧ i.size = s ∧ i.bytes = b := by
  cases o with
  | none => simp at h
  | some i => simp at h; exact ⟨i, rfl, h⟩
theorem below_drewN {B : Nat} {a w : World} (h : Below B a w) (m : Nat) : Below B a (w.drewN m) := ⟨h.os, h.tape, h.output, h.size, h.block⟩
theorem infoBlock : (Try.prog.info? 42).map (fun i => (i.zero, i.size, i.bytes)) = some (some (.agg #[.int .i64 0, .int .i64 0]), 2, 16) := by kernel_rfl
/-- A block's cells. -/
def encB (p : Int × Int) : List Value := [.int .i64 p.1, .int .i64 p.2]
theorem encB_len : ∀ p, (encB p).length = 2 := fun _ => rfl
theorem encB_one : ∀ p, ∀ u ∈ encB p, u.oneCell' = true := by
  intro p u h
  simp [encB] at h
  rcases h with rfl | rfl <;> rfl
theorem block_one (x y : Int) : ∀ u, u ∈ (#[Value.int .i64 x, .int .i64 y] : Array Value).toList → u.oneCell' = true := encB_one (x, y)
def dropL (L : List (Int × Int)) (x : Int × Int) : List (Int × Int) := L.filter fun y => !(y == x)
theorem take_next {α : Type} {L : List α} {k : Nat} (h : k < L.length) : L.take (k + 1) = L.take k ++ [L[k]] := by
  rw [List.take_add_one, List.getElem?_eq_getElem h]; rfl

theorem sizeBlock : (Try.prog.info? 42).map (·.size) = some 2 := by kernel_rfl
theorem load_block {W : World} {g o : Nat} {x y : Int} (h0 : W.cell? ⟨g, o, none⟩ = some (.int .i64 x)) (h1 : W.cell? ⟨g, o + 1, none⟩ = some (.int .i64 y)) :
    (loadVar 42 ⟨g, o, none⟩).run Try.prog W = .ok (.agg #[.int .i64 x, .int .i64 y]) W :=
  run_loadVar_mid (P := Try.prog) W g o 42 [.int .i64 x, .int .i64 y] _ (fun j v hj => by
    match j, hj with
    | 0, hj => simp at hj; subst hj; exact h0
    | 1, hj => simp at hj; subst hj; exact h1) Try.underlying42 rfl sizeBlock
theorem ite_eqB {β : Type} (A : Bool → β) (p : Int × Int) (x y : Int) : (if p.1 = x then if p.2 = y then A true else A false else A false) = A (p == (x, y)) := by
  obtain ⟨a, b⟩ := p
  by_cases h1 : a = x
  · by_cases h2 : b = y
    · subst h1; subst h2; simp
    · have : ((a, b) == (x, y)) = false := by simp [h2]
      rw [this, if_pos h1, if_neg h2]
  · have : ((a, b) == (x, y)) = false := by simp [h1]
    rw [this, if_neg h1]
theorem dropL_yes {L : List (Int × Int)} {k : Nat} (hk : k < L.length) {x : Int × Int} (h : (L[k] == x) = true) : dropL (L.take (k + 1)) x = dropL (L.take k) x ∧ (L.take (k + 1)).contains x = true := by
  rw [take_next hk]
  unfold dropL
  rw [List.filter_append, List.filter_cons_of_neg (by simp [h]), List.filter_nil, List.append_nil]
  refine ⟨rfl, ?_⟩
  rw [eq_of_beq h]
  simp
theorem dropL_no {L : List (Int × Int)} {k : Nat} (hk : k < L.length) {x : Int × Int} (h : (L[k] == x) = false) : dropL (L.take (k + 1)) x = dropL (L.take k) x ++ [L[k]] ∧ (L.take (k + 1)).contains x = (L.take k).contains x := by
  rw [take_next hk]
  unfold dropL
  rw [List.filter_append, List.filter_cons_of_pos (by simp [h]), List.filter_nil]
  refine ⟨rfl, ?_⟩
  have h2 : ¬ x = L[k] := fun e => by rw [e, beq_self_eq_true] at h; cases h
  refine Bool.eq_iff_iff.2 ?_
  rw [List.contains_iff_mem, List.contains_iff_mem, List.mem_append, List.mem_singleton]
  exact ⟨fun h => h.resolve_right h2, .inl⟩
theorem dropL_len (L : List (Int × Int)) (x : Int × Int) : (dropL L x).length ≤ L.length := List.length_filter_le _ _
/-- What drop leaves. -/
def DropAt (w : World) (L : List (Int × Int)) (x : Int × Int) (e : Ending) (w' : World) : Prop :=
  ∃ a' c', e = .returned (.tuple #[.slice a' (dropL L x).length c', .bool (L.contains x)]) ∧ RecsAt w' w.heap.size a' encB 2 (dropL L x) ∧ Below w.heap.size w w'

set_option maxRecDepth 100000 in
set_option maxHeartbeats 1000000 in
theorem drop_any {w : World} {B : Nat} {a : Option Addr} {L : List (Int × Int)} (S : RecsAt w B a encB 2 L) (hl : L.length ≤ 900) (c : Nat) (x : Int × Int) :
    Calls Try.prog 31 #[.slice a L.length c, .agg #[.int .i64 x.1, .int .i64 x.2]] w (DropAt w L x) := by
  obtain ⟨i0, hi, hz0, hz1, hz2⟩ := info_parts infoBlock
  obtain ⟨x1, x2⟩ := x
  have hb : Below w.heap.size w (w.alloc (.cells #[.int .i64 x1, .int .i64 x2] 42)) := (Below.refl _ w).alloc (Nat.le_refl _) _
  have HB0 := Lib.hid hb
  have HS0 := Lib.hid (S.later hb)
  have HX0 := Lib.hid (RowAt.new w #[.int .i64 x1, .int .i64 x2] 42 2 (fun i => if i = 0 then .int .i64 x1 else .int .i64 x2) (fun i hi => by
    rcases (show i = 0 ∨ i = 1 by omega) with rfl | rfl <;> rfl))
  clear hb S
  go_enter Try.func31, Try.ntmps31
  go_wp2_with (fail)
  generalize hxb : w.heap.size = xb at *
  generalize w.alloc (.cells #[.int .i64 x1, .int .i64 x2] 42) = w1 at *
  go_loopw [6, 7, 8] (fun v t i wr => ∃ k : Nat, k ≤ L.length ∧ i = .int .i64 k ∧ t = .bool ((L.take k).contains (x1, x2)) ∧ Hid (wr.ownsRow w1.heap.size 42 2 v (dropL (L.take k) (x1, x2)).length (recV encB (dropL (L.take k) (x1, x2)))) ∧ Below w1.heap.size w1 wr) (fun _ _ i _ => L.length - (intOf i).toNat)
  case atStart => exact ⟨0, Nat.zero_le _, rfl, rfl, World.ownsRow_nil _ _ _ _, Below.refl _ _⟩
  case round =>
    obtain ⟨k, hk, rfl, rfl, HO, hB⟩ := hrel
    have HB := Lib.hid hB
    clear hB
    by_cases hlt : k < L.length
    · obtain ⟨g, rfl, _, _, hr⟩ := (HS0.out.later HB.out).get encB_len k hlt
      have c0 : wr.cell? ⟨g, k * 2, none⟩ = some (.int .i64 L[k].1) := hr 0 _ rfl
      have c1 : wr.cell? ⟨g, k * 2 + 1, none⟩ = some (.int .i64 L[k].2) := hr 1 _ rfl
      have d0 : wr.cell? ⟨xb, 0, none⟩ = some (.int .i64 x1) := (HX0.out.later HB.out).cell 0 (by decide)
      have d1 : wr.cell? ⟨xb, 1, none⟩ = some (.int .i64 x2) := (HX0.out.later HB.out).cell 1 (by decide)
      clear hr
      have L1 := Lib.hid (show ∀ W, Kept wr.heap.size wr W → (loadVar 42 ⟨g, k * 2, none⟩).run Try.prog W = .ok (.agg #[.int .i64 L[k].1, .int .i64 L[k].2]) W from
        fun W hW => load_block (by rw [hW.cell (World.block_lt_of_cell? _ _ c0)]; exact c0) (by rw [hW.cell (World.block_lt_of_cell? _ _ c1)]; exact c1))
      have L2 := Lib.hid (show ∀ W, Kept wr.heap.size wr W → (loadVar 42 ⟨xb, 0, none⟩).run Try.prog W = .ok (.agg #[.int .i64 x1, .int .i64 x2]) W from
        fun W hW => load_block (by rw [hW.cell (World.block_lt_of_cell? _ _ d0)]; exact d0) (by rw [hW.cell (World.block_lt_of_cell? _ _ d1)]; exact d1))
      go_wp2_with (fail)
      refine wp_region_lex1 (Kept wr.heap.size wr) [(0, false), (1, false), (2, false), (3, false), (4, false), (5, false)]
        (by kernel_rfl) (by kernel_rfl) rfl (by kernel_rfl) (Below.refl _ wr).drew ?_
      intro W0 hW0 hK0
      clear hW0
      refine lexH_yieldE rfl rfl ?_
      apply Exists.intro
      refine ⟨fun W hW => ?_, ?_⟩
      focus (go_simp; exact rfl)
      simp only [List.getElem_toArray, List.getElem_cons_zero, Act.put, List.setIfInBounds_toArray, List.set_cons_zero, List.set_cons_succ]
      refine lexH_yieldE rfl rfl ?_
      apply Exists.intro
      refine ⟨fun W hW => ?_, ?_⟩
      focus (go_simp; exact rfl)
      simp only [List.getElem_toArray, List.getElem_cons_succ, List.getElem_cons_zero, Act.put, List.setIfInBounds_toArray, List.set_cons_zero, List.set_cons_succ]
      refine lexH_yieldE rfl rfl ?_
      apply Exists.intro
      refine ⟨fun W hW => ?_, ?_⟩
      focus (go_simp; exact rfl)
      simp only [List.getElem_toArray, List.getElem_cons_succ, List.getElem_cons_zero, Act.put, List.setIfInBounds_toArray, List.set_cons_zero, List.set_cons_succ]
      refine lexH_load rfl rfl _ _ rfl rfl L1.out ?_
      simp only [List.getElem_toArray, List.getElem_cons_succ, List.getElem_cons_zero, Act.put, List.setIfInBounds_toArray, List.set_cons_zero, List.set_cons_succ]
      refine lexH_load rfl rfl _ _ rfl rfl L2.out ?_
      simp only [List.getElem_toArray, List.getElem_cons_succ, List.getElem_cons_zero, Act.put, List.setIfInBounds_toArray, List.set_cons_zero, List.set_cons_succ]
      refine lexH_yield rfl rfl (v := .bool (L[k] == (x1, x2))) (fun W hW => ?_) ?_
      focus (go_simp; exact ite_eqB (fun b => Result.ok (Next.value (Value.bool b)) W) L[k] x1 x2)
      simp only [List.getElem_toArray, List.getElem_cons_succ, List.getElem_cons_zero, Act.put, List.setIfInBounds_toArray, List.set_cons_zero, List.set_cons_succ]
      refine lexH_nil ?_
      have HB2 := Lib.hid (show Below w1.heap.size w1 W0 from HB.out.trans (hK0.below.mono HB.out.size))
      have HO2 := Lib.hid (owns_later HO.out hK0.below)
      have c0 : W0.cell? ⟨g, k * 2, none⟩ = some (.int .i64 L[k].1) := by rw [hK0.cell (World.block_lt_of_cell? _ _ c0)]; exact c0
      have c1 : W0.cell? ⟨g, k * 2 + 1, none⟩ = some (.int .i64 L[k].2) := by rw [hK0.cell (World.block_lt_of_cell? _ _ c1)]; exact c1
      have HDL := Lib.hid (Nat.le_trans (dropL_len (L.take k) (x1, x2)) (show (L.take k).length ≤ 900 by rw [List.length_take]; omega))
      clear d0 d1 L1 L2 hK0 HB HO
      cases hq : (L[k] == (x1, x2)) with
      | true =>
        obtain ⟨q1, q2⟩ := dropL_yes hlt hq
        have HQ1 := Lib.hid q1
        have HQ2 := Lib.hid q2
        clear q1 q2 hq
        go_wp2_with (fail)
        go_roundw
        case rel => exact ⟨k + 1, hlt, by go_num, by rw [HQ2.out], by rw [HQ1.out]; exact HO2, HB2.out⟩
        case measure => simp [intOf]; omega
      | false =>
        obtain ⟨q1, q2⟩ := dropL_no hlt hq
        have HQ1 := Lib.hid q1
        have HQ2 := Lib.hid q2
        clear q1 q2 hq
        go_wp2_with (at_builtin; refine wpList_append_one W0 rfl _ _ 38 rfl w1.heap.size 42 i0 _ 2 16 Try.underlying38 hi hz0 hz1 hz2 rfl (by decide) _ _ _ #[.int .i64 L[k].1, .int .i64 L[k].2] HO2.out HB2.out.size rfl rfl rfl (block_one _ _) (Nat.le_trans HDL.out (by decide)) (by decide) ?_)
        intro v' w3 hown ho _
        have HO3 := Lib.hid (show w3.ownsRow w1.heap.size 42 2 v' (dropL (L.take (k + 1)) (x1, x2)).length (recV encB (dropL (L.take (k + 1)) (x1, x2))) by
          rw [HQ1.out, List.length_append, recV_append, recV_single]
          exact hown)
        have HB3 := Lib.hid (ho.below HB2.out HB2.out.size (fun j hj => (HO2.out.lt j hj).1))
        clear hown ho HO2 HB2 c0 c1
        go_wp2_with (fail)
        go_roundw
        case rel => exact ⟨k + 1, hlt, by go_num, by rw [HQ2.out]; simp, HO3, HB3.out⟩
        case measure => simp [intOf]; omega
    · obtain rfl : k = L.length := by omega
      have HO2 := HO.out
      rw [List.take_length] at HO2
      obtain ⟨a', c', rfl, hr⟩ := RecsAt.of_owns HO2
      have HN := Lib.hid (show DropAt w L (x1, x2) (.returned (.tuple #[.slice a' (dropL L (x1, x2)).length c', .bool (L.contains (x1, x2))])) wr from
        ⟨a', c', rfl, hr.base HB0.out.size, by rw [hxb]; exact HB0.out.trans (HB.out.mono (by rw [← hxb]; exact HB0.out.size))⟩)
      clear HO HO2 hr HB HB0 HS0 HX0
      rw [List.take_length]
      go_wp2_with (fail)
      go_ret2
      exact HN.out

/-- One step of put: a list and whether x is in it. -/
def stepP (x : Int × Int) (s : List (Int × Int) × Bool) (y : Int × Int) : List (Int × Int) × Bool := if s.2 = false ∧ x.1 < y.1 then (s.1 ++ [x] ++ [y], true) else (s.1 ++ [y], s.2)
def putS (L : List (Int × Int)) (x : Int × Int) (k : Nat) : List (Int × Int) × Bool := (L.take k).foldl (stepP x) ([], false)
def putL (L : List (Int × Int)) (x : Int × Int) : List (Int × Int) := if (putS L x L.length).2 = true then (putS L x L.length).1 else (putS L x L.length).1 ++ [x]
theorem putS_next {L : List (Int × Int)} {x : Int × Int} {k : Nat} (h : k < L.length) : putS L x (k + 1) = stepP x (putS L x k) L[k] := by
  unfold putS
  rw [take_next h, List.foldl_append]; rfl
theorem putS_len (L : List (Int × Int)) (x : Int × Int) : ∀ k, k ≤ L.length → (putS L x k).1.length = k + (if (putS L x k).2 = true then 1 else 0)
  | 0, _ => rfl
  | k + 1, h => by
    have ih := putS_len L x k (by omega)
    rw [putS_next (by omega)]
    unfold stepP
    by_cases hc : (putS L x k).2 = false ∧ x.1 < L[k].1
    · rw [if_pos hc]
      rw [hc.1] at ih
      simp at ih ⊢
      omega
    · rw [if_neg hc]
      simp at ih ⊢
      omega

def brV (n : Nat) (v u : Value) (i : Nat) : Value := if i = 0 then .int .i64 n else if i = 1 then v else u
/-- The document's node at r: its free blocks, its taken ones. -/
structure BRef (w : World) (r n : Nat) (L T : List (Int × Int)) (v u : Value) : Prop where
  row : RowAt w r 3 (brV n v u)
  fr : ∃ a c, v = .slice a L.length c ∧ RecsAt w (r + 1) a encB 2 L
  tk : ∃ a c, u = .slice a T.length c ∧ RecsAt w (r + 1) a encB 2 T
section
variable {w w' : World} {r n : Nat} {L T : List (Int × Int)} {v u : Value}
theorem BRef.later (R : BRef w r n L T v u) (h : Below w.heap.size w w') : BRef w' r n L T v u := by
  obtain ⟨a, c, e, hf⟩ := R.fr
  obtain ⟨b, d, e2, ht⟩ := R.tk
  exact ⟨R.row.later h, ⟨a, c, e, hf.later h⟩, ⟨b, d, e2, ht.later h⟩⟩
theorem BRef.only {S : Nat → Prop} (R : BRef w r n L T v u) (h : Only S w w') (hs : ∀ k, r ≤ k → ¬ S k) : BRef w' r n L T v u := by
  obtain ⟨a, c, e, hf⟩ := R.fr
  obtain ⟨b, d, e2, ht⟩ := R.tk
  refine ⟨R.row.only h (hs r (Nat.le_refl _)), ⟨a, c, e, fun hp => ?_⟩, ⟨b, d, e2, fun hp => ?_⟩⟩
  · obtain ⟨g, e, hg, hlt, A, t, hA, hi⟩ := hf hp
    exact ⟨g, e, hg, Nat.lt_of_lt_of_le hlt h.size, A, t, by rw [h.block g hlt (hs g (by omega))]; exact hA, hi⟩
  · obtain ⟨g, e, hg, hlt, A, t, hA, hi⟩ := ht hp
    exact ⟨g, e, hg, Nat.lt_of_lt_of_le hlt h.size, A, t, by rw [h.block g hlt (hs g (by omega))]; exact hA, hi⟩
theorem BRef.c0 (R : BRef w r n L T v u) : w.cell? ⟨r, 0, none⟩ = some (.int .i64 n) := R.row.cell 0 (by decide)
theorem BRef.c1 (R : BRef w r n L T v u) : w.cell? ⟨r, 1, none⟩ = some v := R.row.cell 1 (by decide)
theorem BRef.c2 (R : BRef w r n L T v u) : w.cell? ⟨r, 2, none⟩ = some u := R.row.cell 2 (by decide)
theorem BRef.lt (R : BRef w r n L T v u) : r < w.heap.size := R.row.lt
/-- Its free blocks laid anew. -/
theorem BRef.setF (R : BRef w r n L T v u) {L' : List (Int × Int)} {a : Option Addr} {c : Nat} (h : RecsAt w (r + 1) a encB 2 L') : BRef (w.setCell ⟨r, 1, none⟩ (.slice a L'.length c)) r n L' T (.slice a L'.length c) u := by
  obtain ⟨b, d, e2, ht⟩ := R.tk
  have ho := Only.setCell (S := Eq r) w ⟨r, 1, none⟩ rfl (.slice a L'.length c)
  refine ⟨(R.row.setCell 1 _).ext (fun i hi => ?_), ⟨a, c, rfl, fun hp => ?_⟩, ⟨b, d, e2, fun hp => ?_⟩⟩
  · unfold updV brV
    rcases (show i = 0 ∨ i = 1 ∨ i = 2 by omega) with rfl | rfl | rfl <;> simp
  · obtain ⟨g, e, hg, hlt, A, t, hA, hi⟩ := h hp
    exact ⟨g, e, hg, Nat.lt_of_lt_of_le hlt ho.size, A, t, by rw [ho.block g hlt (by omega)]; exact hA, hi⟩
  · obtain ⟨g, e, hg, hlt, A, t, hA, hi⟩ := ht hp
    exact ⟨g, e, hg, Nat.lt_of_lt_of_le hlt ho.size, A, t, by rw [ho.block g hlt (by omega)]; exact hA, hi⟩

/-- What a call that turns the free blocks leaves. -/
def PutAt (w : World) (r n : Nat) (L' T : List (Int × Int)) (u : Value) (w' : World) : Prop := ∃ a' c', BRef w' r n L' T (.slice a' L'.length c') u ∧ RecsAt w' w.heap.size a' encB 2 L' ∧ Only (Eq r) w w'

set_option maxRecDepth 100000 in
set_option maxHeartbeats 2000000 in
theorem put_any (R : BRef w r n L T v u) (hl : L.length ≤ 900) (x : Int × Int) :
    Calls Try.prog 32 #[.pointer (some ⟨r, 0, none⟩), .agg #[.int .i64 x.1, .int .i64 x.2]] w fun e w' => e = .returned (.tuple #[]) ∧ PutAt w r n (putL L x) T u w' := by
  obtain ⟨i0, hi, hz0, hz1, hz2⟩ := info_parts infoBlock
  obtain ⟨x1, x2⟩ := x
  have hb : Below w.heap.size w (w.alloc (.cells #[.int .i64 x1, .int .i64 x2] 42)) := (Below.refl _ w).alloc (Nat.le_refl _) _
  have HB0 := Lib.hid hb
  have HR0 := Lib.hid (R.later hb)
  have HLT := Lib.hid R.lt
  have HX0 := Lib.hid (RowAt.new w #[.int .i64 x1, .int .i64 x2] 42 2 (fun i => if i = 0 then .int .i64 x1 else .int .i64 x2) (fun i hi => by
    rcases (show i = 0 ∨ i = 1 by omega) with rfl | rfl <;> rfl))
  obtain ⟨a, c, hv, hS⟩ := R.fr
  have HV := Lib.hid hv
  have HS0 := Lib.hid (hS.later hb)
  clear hb R hS hv
  go_enter Try.func32, Try.ntmps32
  go_wp2_with (fail)
  generalize hxb : w.heap.size = xb at *
  generalize w.alloc (.cells #[.int .i64 x1, .int .i64 x2] 42) = w1 at *
  go_loopw [4, 5, 6] (fun o t i wr => ∃ k : Nat, k ≤ L.length ∧ i = .int .i64 k ∧ t = .bool (putS L (x1, x2) k).2 ∧ Hid (wr.ownsRow w1.heap.size 42 2 o (putS L (x1, x2) k).1.length (recV encB (putS L (x1, x2) k).1)) ∧ Below w1.heap.size w1 wr) (fun _ _ i _ => L.length - (intOf i).toNat)
  case atStart => exact ⟨0, Nat.zero_le _, rfl, rfl, World.ownsRow_nil _ _ _ _, Below.refl _ _⟩
  case round =>
    obtain ⟨k, hk, rfl, rfl, HO, hB⟩ := hrel
    have HB := Lib.hid hB
    clear hB
    have c1 := (HR0.out.later HB.out).c1
    rw [HV.out] at c1
    have hlen := putS_len L (x1, x2) k hk
    have HLN := Lib.hid (show (putS L (x1, x2) k).1.length ≤ 901 by split at hlen <;> omega)
    clear hlen
    have d0 : wr.cell? ⟨xb, 0, none⟩ = some (.int .i64 x1) := (HX0.out.later HB.out).cell 0 (by decide)
    have d1 : wr.cell? ⟨xb, 1, none⟩ = some (.int .i64 x2) := (HX0.out.later HB.out).cell 1 (by decide)
    by_cases hlt : k < L.length
    · obtain ⟨g, rfl, _, _, hr⟩ := (HS0.out.later HB.out).get encB_len k hlt
      have e0 : wr.cell? ⟨g, k * 2, none⟩ = some (.int .i64 L[k].1) := hr 0 _ rfl
      have e1 : wr.cell? ⟨g, k * 2 + 1, none⟩ = some (.int .i64 L[k].2) := hr 1 _ rfl
      have HN := Lib.hid (putS_next (x := (x1, x2)) hlt)
      clear hr
      cases hd : (putS L (x1, x2) k).2 with
      | true =>
        have HE := Lib.hid (show putS L (x1, x2) (k + 1) = ((putS L (x1, x2) k).1 ++ [L[k]], true) by rw [HN.out]; unfold stepP; rw [if_neg (by rw [hd]; simp), hd])
        go_wp2_with (fail)
        go_quiet (fail)
        have hb := below_drewN (Below.refl wr.heap.size wr) nq
        have HO2 := Lib.hid (owns_later HO.out hb)
        have HB2 := Lib.hid (HB.out.trans (hb.mono HB.out.size))
        have c1 : (wr.drewN nq).cell? ⟨r, 1, none⟩ = _ := c1
        have d0 : (wr.drewN nq).cell? ⟨xb, 0, none⟩ = _ := d0
        have d1 : (wr.drewN nq).cell? ⟨xb, 1, none⟩ = _ := d1
        have e0 : (wr.drewN nq).cell? ⟨g, k * 2, none⟩ = _ := e0
        have e1 : (wr.drewN nq).cell? ⟨g, k * 2 + 1, none⟩ = _ := e1
        clear hb HO HB
        generalize wr.drewN nq = W at *
        go_wp2_with (at_builtin; refine wpList_append_one W rfl _ _ 38 rfl w1.heap.size 42 i0 _ 2 16 Try.underlying38 hi hz0 hz1 hz2 rfl (by decide) _ _ _ #[.int .i64 L[k].1, .int .i64 L[k].2] HO2.out HB2.out.size rfl rfl rfl (block_one _ _) (Nat.le_trans HLN.out (by decide)) (by decide) ?_)
        intro v' w3 hown ho _
        have HO3 := Lib.hid (show w3.ownsRow w1.heap.size 42 2 v' (putS L (x1, x2) (k + 1)).1.length (recV encB (putS L (x1, x2) (k + 1)).1) by
          rw [HE.out, List.length_append, recV_append, recV_single]
          exact hown)
        have HB3 := Lib.hid (ho.below HB2.out HB2.out.size (fun j hj => (HO2.out.lt j hj).1))
        clear hown ho HO2 HB2 c1 d0 d1 e0 e1
        go_wp2_with (fail)
        go_roundw
        case rel => exact ⟨k + 1, hlt, by go_num, by rw [HE.out], HO3, HB3.out⟩
        case measure => simp [intOf]; omega
      | false =>
        by_cases hx : x1 < L[k].1
        · have HE := Lib.hid (show putS L (x1, x2) (k + 1) = ((putS L (x1, x2) k).1 ++ [(x1, x2)] ++ [L[k]], true) by rw [HN.out]; unfold stepP; rw [if_pos ⟨hd, hx⟩])
          go_wp2_with (fail)
          go_quiet (fail)
          have hb := below_drewN (Below.refl wr.heap.size wr) nq
          have HO2 := Lib.hid (owns_later HO.out hb)
          have HB2 := Lib.hid (HB.out.trans (hb.mono HB.out.size))
          have c1 : (wr.drewN nq).cell? ⟨r, 1, none⟩ = _ := c1
          have d0 : (wr.drewN nq).cell? ⟨xb, 0, none⟩ = _ := d0
          have d1 : (wr.drewN nq).cell? ⟨xb, 1, none⟩ = _ := d1
          have e0 : (wr.drewN nq).cell? ⟨g, k * 2, none⟩ = _ := e0
          have e1 : (wr.drewN nq).cell? ⟨g, k * 2 + 1, none⟩ = _ := e1
          clear hb HO HB
          generalize wr.drewN nq = W at *
          go_wp2_with (at_builtin; refine wpList_append_one W rfl _ _ 38 rfl w1.heap.size 42 i0 _ 2 16 Try.underlying38 hi hz0 hz1 hz2 rfl (by decide) _ _ _ #[.int .i64 x1, .int .i64 x2] HO2.out HB2.out.size rfl rfl rfl (block_one _ _) (Nat.le_trans HLN.out (by decide)) (by decide) ?_)
          intro v' w3 hown ho _
          have HO3 := Lib.hid (show w3.ownsRow w1.heap.size 42 2 v' ((putS L (x1, x2) k).1 ++ [(x1, x2)]).length (recV encB ((putS L (x1, x2) k).1 ++ [(x1, x2)])) by
            rw [List.length_append, recV_append, recV_single]
            exact hown)
          have HB3 := Lib.hid (ho.below HB2.out HB2.out.size (fun j hj => (HO2.out.lt j hj).1))
          have hso : ∀ q, q < w1.heap.size → w3.heap[q]? = W.heap[q]? := fun q hq => ho.block q (Nat.lt_of_lt_of_le hq HB2.out.size) (fun e => by have := (HO2.out.lt q e).1; omega)
          have HG := HS0.out (by omega)
          obtain ⟨g', eg, _, hgl, _⟩ := HG
          cases eg
          have e0 : w3.cell? ⟨g, k * 2, none⟩ = _ := (World.cell?_of_block (a := ⟨g, k * 2, none⟩) (hso g hgl)).trans e0
          have e1 : w3.cell? ⟨g, k * 2 + 1, none⟩ = _ := (World.cell?_of_block (a := ⟨g, k * 2 + 1, none⟩) (hso g hgl)).trans e1
          have c1 : w3.cell? ⟨r, 1, none⟩ = _ := (World.cell?_of_block (a := ⟨r, 1, none⟩) (hso r HR0.out.lt)).trans c1
          have HL2 := Lib.hid (show ((putS L (x1, x2) k).1 ++ [(x1, x2)]).length ≤ 1000 by rw [List.length_append]; have := HLN.out; simp; omega)
          clear hown ho HO2 HB2 d0 d1 hso
          go_wp2_with (at_builtin; refine wpList_append_one w3 rfl _ _ 38 rfl w1.heap.size 42 i0 _ 2 16 Try.underlying38 hi hz0 hz1 hz2 rfl (by decide) _ _ _ #[.int .i64 L[k].1, .int .i64 L[k].2] HO3.out HB3.out.size rfl rfl rfl (block_one _ _) HL2.out (by decide) ?_)
          intro v2 w4 hown ho _
          have HO4 := Lib.hid (show w4.ownsRow w1.heap.size 42 2 v2 (putS L (x1, x2) (k + 1)).1.length (recV encB (putS L (x1, x2) (k + 1)).1) by
            rw [HE.out, recV_append _ [L[k]], recV_single]
            have e : ((putS L (x1, x2) k).1 ++ [(x1, x2)] ++ [L[k]]).length = (putS L (x1, x2) k).1.length + 1 + 1 := by simp
            rw [e]
            exact hown)
          have HB4 := Lib.hid (ho.below HB3.out HB3.out.size (fun j hj => (HO3.out.lt j hj).1))
          clear hown ho HO3 HB3 c1 e0 e1
          go_wp2_with (fail)
          go_roundw
          case rel => exact ⟨k + 1, hlt, by go_num, by rw [HE.out], HO4, HB4.out⟩
          case measure => simp [intOf]; omega
        · have HE := Lib.hid (show putS L (x1, x2) (k + 1) = ((putS L (x1, x2) k).1 ++ [L[k]], false) by rw [HN.out]; unfold stepP; rw [if_neg (fun h => hx h.2), hd])
          go_wp2_with (fail)
          go_quiet (fail)
          have hb := below_drewN (Below.refl wr.heap.size wr) nq
          have HO2 := Lib.hid (owns_later HO.out hb)
          have HB2 := Lib.hid (HB.out.trans (hb.mono HB.out.size))
          have c1 : (wr.drewN nq).cell? ⟨r, 1, none⟩ = _ := c1
          have d0 : (wr.drewN nq).cell? ⟨xb, 0, none⟩ = _ := d0
          have d1 : (wr.drewN nq).cell? ⟨xb, 1, none⟩ = _ := d1
          have e0 : (wr.drewN nq).cell? ⟨g, k * 2, none⟩ = _ := e0
          have e1 : (wr.drewN nq).cell? ⟨g, k * 2 + 1, none⟩ = _ := e1
          clear hb HO HB
          generalize wr.drewN nq = W at *
          go_wp2_with (at_builtin; refine wpList_append_one W rfl _ _ 38 rfl w1.heap.size 42 i0 _ 2 16 Try.underlying38 hi hz0 hz1 hz2 rfl (by decide) _ _ _ #[.int .i64 L[k].1, .int .i64 L[k].2] HO2.out HB2.out.size rfl rfl rfl (block_one _ _) (Nat.le_trans HLN.out (by decide)) (by decide) ?_)
          intro v' w3 hown ho _
          have HO3 := Lib.hid (show w3.ownsRow w1.heap.size 42 2 v' (putS L (x1, x2) (k + 1)).1.length (recV encB (putS L (x1, x2) (k + 1)).1) by
            rw [HE.out, List.length_append, recV_append, recV_single]
            exact hown)
          have HB3 := Lib.hid (ho.below HB2.out HB2.out.size (fun j hj => (HO2.out.lt j hj).1))
          clear hown ho HO2 HB2 c1 d0 d1 e0 e1
          go_wp2_with (fail)
          go_roundw
          case rel => exact ⟨k + 1, hlt, by go_num, by rw [HE.out], HO3, HB3.out⟩
          case measure => simp [intOf]; omega
    · obtain rfl : k = L.length := by omega
      have HR2 := Lib.hid (HR0.out.later HB.out)
      have HBW := Lib.hid (show Below w.heap.size w wr by rw [hxb]; exact HB0.out.trans (HB.out.mono (by rw [← hxb]; exact HB0.out.size)))
      have hr1 : r + 1 ≤ w1.heap.size := HR0.out.lt
      cases hd : (putS L (x1, x2) L.length).2 with
      | true =>
        have HPL := Lib.hid (show putL L (x1, x2) = (putS L (x1, x2) L.length).1 by unfold putL; rw [if_pos hd])
        have HO2 := HO.out
        rw [← HPL.out] at HO2
        obtain ⟨a', c', rfl, hs⟩ := RecsAt.of_owns HO2
        have f1 : wr.frozen? ⟨r, 1, none⟩ = false := HR2.out.row.frozen 1
        have HN := Lib.hid (show PutAt w r n (putL L (x1, x2)) T u (wr.setCell ⟨r, 1, none⟩ (.slice a' (putL L (x1, x2)).length c')) from
          ⟨a', c', HR2.out.setF (hs.base hr1), (hs.above (Only.setCell (S := Eq r) wr ⟨r, 1, none⟩ rfl _) (fun g hg e => by omega)).base HB0.out.size, (Only.of_below HBW.out).trans (Only.setCell wr ⟨r, 1, none⟩ rfl _)⟩)
        clear HO HO2 hs HR2 HBW HPL
        go_wp2_with (fail)
        go_end0
        exact ⟨rfl, HN.out⟩
      | false =>
        have HPL := Lib.hid (show putL L (x1, x2) = (putS L (x1, x2) L.length).1 ++ [(x1, x2)] by unfold putL; rw [if_neg (by rw [hd]; decide)])
        go_wp2_with (at_builtin; refine wpList_append_one wr rfl _ _ 38 rfl w1.heap.size 42 i0 _ 2 16 Try.underlying38 hi hz0 hz1 hz2 rfl (by decide) _ _ _ #[.int .i64 x1, .int .i64 x2] HO.out HB.out.size rfl rfl rfl (block_one _ _) (Nat.le_trans HLN.out (by decide)) (by decide) ?_)
        intro v' w3 hown ho _
        have hown : w3.ownsRow w1.heap.size 42 2 v' (putL L (x1, x2)).length (recV encB (putL L (x1, x2))) := by
          rw [HPL.out, List.length_append, recV_append, recV_single]
          exact hown
        obtain ⟨a', c', rfl, hs⟩ := RecsAt.of_owns hown
        have HB3 := Lib.hid (ho.below HB.out HB.out.size (fun j hj => (HO.out.lt j hj).1))
        have HR3 := Lib.hid (HR0.out.later HB3.out)
        have c3 := HR3.out.c1
        rw [HV.out] at c3
        have f3 : w3.frozen? ⟨r, 1, none⟩ = false := HR3.out.row.frozen 1
        have HN := Lib.hid (show PutAt w r n (putL L (x1, x2)) T u (w3.setCell ⟨r, 1, none⟩ (.slice a' (putL L (x1, x2)).length c')) from
          ⟨a', c', HR3.out.setF (hs.base hr1), (hs.above (Only.setCell (S := Eq r) w3 ⟨r, 1, none⟩ rfl _) (fun g hg e => by omega)).base HB0.out.size, (Only.of_below (by rw [hxb]; exact HB0.out.trans (HB3.out.mono (by rw [← hxb]; exact HB0.out.size)))).trans (Only.setCell w3 ⟨r, 1, none⟩ rfl _)⟩)
        clear hown ho hs HO HB HR2 HBW HPL HB3 HR3 c1 d0 d1
        go_wp2_with (fail)
        go_end0
        exact ⟨rfl, HN.out⟩
end
end Go.Proofs.Ytilcdnkjfbkpnaa
