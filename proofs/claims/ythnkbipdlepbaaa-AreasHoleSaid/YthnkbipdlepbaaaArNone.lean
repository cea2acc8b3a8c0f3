/-
  The walk of AreasNone, for whatever areas (NoneOk: what is asked of areas that are not there, and of zero ones).
-/
import Derived.Test.YthnkbipdlepbaaaArLawPlays
namespace Go.Proofs.Ythnkbipdlepbaaa
open Go.RowKit Go.Shelf Go
attribute [local go_sem] Oper.semAt_some

structure NoneOk (IsA : Thg → Nat → (Nat → Nat) → Prop) (zc : Array Value) : Prop where
  map : ∀ (w : World) (p c r : Int), Calls Try.prog 11 #[.pointer none, .int .i64 p, .int .i64 c, .int .u8 r] w fun e w' => e = .returned (.int .i64 1) ∧ Below w.heap.size w w'
  unmap : ∀ (w : World) (p c : Int), Calls Try.prog 13 #[.pointer none, .int .i64 p, .int .i64 c] w fun e w' => e = .returned (.int .i64 1) ∧ Below w.heap.size w w'
  protect : ∀ (w : World) (p c r : Int), Calls Try.prog 15 #[.pointer none, .int .i64 p, .int .i64 c, .int .u8 r] w fun e w' => e = .returned (.int .i64 1) ∧ Below w.heap.size w w'
  mapped : ∀ (w : World) (p c : Int), Calls Try.prog 17 #[.pointer none, .int .i64 p, .int .i64 c] w fun e w' => e = .returned (.int .i64 1) ∧ Below w.heap.size w w'
  rights : ∀ (w : World) (p : Int), Calls Try.prog 19 #[.pointer none, .int .i64 p] w fun e w' => e = .returned (.tuple #[.int .u8 0, .bool false]) ∧ Below w.heap.size w w'
  len : ∀ (w : World), Calls Try.prog 24 #[.pointer none] w fun e w' => e = .returned (.int .i64 0) ∧ Below w.heap.size w w'
  copy : ∀ (w : World), Calls Try.prog 21 #[.pointer none] w fun e w' => e = .returned (.pointer none) ∧ Below w.heap.size w w'
  runs : ∀ (w : World), Calls Try.prog 23 #[.pointer none] w (TellP Thg.no [] w)
  val : ∀ W, (zeroValue 42).run Try.prog W = .ok (.agg zc) W
  zero : ∀ (w : World), ∃ X, IsA X w.heap.size (fun _ => 0) ∧ X.At (w.alloc (.cells zc 42)) ∧ ∀ k, X.has k → k = w.heap.size
/-- A range over an iterator that tells nothing. -/
theorem range_nil {g : Nat} {lb : Array Value} {own : Nat → Prop} {w : World} (m : Nat) (hm : 8 ≤ m) (T : Tells Try.prog g lb (fun x => #[runV x]) [] own w) (hent : ∀ args W, (callFunc g args).run Try.prog W = .ok (.enter g args) W)
    (hown : ∀ k, own k → k < w.heap.size) {gg : Operand} {ps : Array Tmp} {assign body : Code} {Q : Exit → Act → World → Prop} {a : Act} (hps : ps.size = 1) (hg : a.eval gg = .func (.func g) #[] lb)
    (hdone : ∀ (D : Nat) (W : World), w.heap.size ≤ D → Below w.heap.size w W → W.heap[D]? = some (.deferred (some [])) → Q .normal { a with defers := { target := .collected D, args := #[] } :: a.defers } W) :
    (Code.rangeFunc gg ps assign body).wpIn Fence.wide m Try.prog Q a w := by
  have h1 : 1 ≤ m := by omega
  have hsq := T.solo (m - 1) (by omega) (fun _ => False) (fun _ h => h.elim) (fun k hk => ⟨hown k hk, fun h => h⟩)
  exact range_o rfl h1 (gf := g) hg trivial hent hsq KpZ.trans (fun W l o o' _ _ _ => KpZ.put W l o') (fun x => hps.symm ▸ rfl)
    (fun _ W => Below w.heap.size w W) (fun _ _ _ => False) (ownFrom_below (Nat.le_refl _) (Nat.le_refl _)) (fun _ _ _ _ _ h _ _ => h) (Below.refl _ _)
    (fun _ _ _ _ _ => False) (fun _ _ _ _ _ _ _ _ h _ _ => h) (fun _ _ x => absurd x.isLt (Nat.not_lt_zero _)) (fun _ _ x => absurd x.isLt (Nat.not_lt_zero _)) (fun D xs W hD _ hI hK => hdone D W hD hI hK) (fun _ _ _ _ _ _ h _ => h.elim)
/-- The law's world. -/
structure NnAt (IsA : Thg → Nat → (Nat → Nat) → Prop) (w : World) (o : OpA) (W : World) : Prop where
  op : RowAt W w.heap.size 4 (opV o)
  res : RowAt W (w.heap.size + 1) 1 (fun _ => .bool false)
  ar : ∃ X, IsA X (w.heap.size + 2) (fun _ => 0) ∧ X.At W ∧ ∀ k, X.has k → k = w.heap.size + 2
  bel : Below w.heap.size w W
  le : w.heap.size + 3 ≤ W.heap.size
theorem NnAt.later {IsA : Thg → Nat → (Nat → Nat) → Prop} {w W W' : World} {o : OpA} (h : NnAt IsA w o W) (hb : Below W.heap.size W W') : NnAt IsA w o W' :=
  ⟨h.op.later hb, h.res.later hb, by
    obtain ⟨X, h1, h2, h3⟩ := h.ar
    exact ⟨X, h1, X.later h2 hb, h3⟩, h.bel.trans (hb.mono h.bel.size), Nat.le_trans h.le hb.size⟩
theorem NnAt.opc {IsA : Thg → Nat → (Nat → Nat) → Prop} {w W : World} {o : OpA} (h : NnAt IsA w o W) : W.cell? ⟨w.heap.size, 1, none⟩ = some (.int .i64 o.page) ∧ W.cell? ⟨w.heap.size, 2, none⟩ = some (.int .i64 o.count) ∧ W.cell? ⟨w.heap.size, 3, none⟩ = some (.int .u8 o.rights) :=
  ⟨h.op.cell 1 (by decide), h.op.cell 2 (by decide), h.op.cell 3 (by decide)⟩
/-- Its boxes, and the range's block. -/
structure FnAt (w : World) (o : OpA) (D : Nat) (U : World) : Prop where
  op : RowAt U w.heap.size 4 (opV o)
  res : RowAt U (w.heap.size + 1) 1 (fun _ => .bool false)
  dk : U.heap[D]? = some (.deferred (some []))
  bel : Below w.heap.size w U
theorem FnAt.only {w U V : World} {o : OpA} {D : Nat} {C : Nat → Prop} (h : FnAt w o D U) (ho : Only C U V) (h0 : ¬ C w.heap.size) (h1 : ¬ C (w.heap.size + 1)) (h2 : ¬ C D) (h3 : ∀ k, C k → w.heap.size ≤ k) : FnAt w o D V :=
  ⟨h.op.only ho h0, h.res.only ho h1, (ho.block D (Array.getElem?_eq_some_iff.1 h.dk).1 h2).trans h.dk, ho.below h.bel h.bel.size h3⟩
theorem FnAt.later {w U V : World} {o : OpA} {D : Nat} (h : FnAt w o D U) (hb : Below U.heap.size U V) : FnAt w o D V := h.only (C := fun _ => False) (Only.of_below hb) (fun h => h) (fun h => h) (fun h => h) (fun _ h => h.elim)
section
variable {IsA : Thg → Nat → (Nat → Nat) → Prop} (ok : AreasOk IsA) {zc : Array Value} (no : NoneOk IsA zc)
include ok no
set_option maxRecDepth 100000 in
set_option maxHeartbeats 8000000 in
theorem lawANone_in (m : Nat) (hm : 8 ≤ m) (kind p c : Int) (r : Nat) (hr8 : Okp p r) (w : World) :
    CallsIn Fence.wide m Try.prog 4 #[.agg #[.int .i64 kind, .int .i64 p, .int .i64 c, .int .u8 r]] w fun e w' => e = .returned (.bool true) ∧ Below w.heap.size w w' := by
  have h1 : 1 ≤ m := by omega
  have HR8 := Lib.hid hr8
  have hz := zero_pages
  have hv := no.val
  clear hr8
  refine callsIn_of_wp_marks Try.func4 rfl trivial ?_ rfl
  simp only [Try.ntmps4, List.size_toArray, List.length_cons, List.length_nil, Nat.reduceAdd, Nat.reduceSub, Array.replicate_succ, Array.replicate_zero, List.push_toArray, List.append_toArray, List.nil_append, List.cons_append]
  refine wpIn_wide.2 ?_
  go_wp2_with (fail)
  obtain ⟨W1, hW1⟩ : ∃ W1, ((w.alloc (.cells #[.int .i64 kind, .int .i64 p, .int .i64 c, .int .u8 r] 30)).alloc (.cells #[.bool false] 4)).alloc (.cells zc 42) = W1 := ⟨_, rfl⟩
  have HS1 := Lib.hid (show NnAt IsA w ⟨kind, p, c, r⟩ W1 from by
    rw [← hW1]
    have hz := no.zero ((w.alloc (.cells #[.int .i64 kind, .int .i64 p, .int .i64 c, .int .u8 r] 30)).alloc (.cells #[.bool false] 4))
    have hr := RowAt.new (w.alloc (.cells #[.int .i64 kind, .int .i64 p, .int .i64 c, .int .u8 r] 30)) #[.bool false] 4 1 (fun _ => .bool false) (fun i hi => by
      obtain rfl : i = 0 := by omega
      rfl)
    rw [World.size_alloc, World.size_alloc] at hz
    rw [World.size_alloc] at hr
    refine ⟨((RowAt.new w _ _ 4 (opV ⟨kind, p, c, r⟩) fun i hi => ?_).alloc _).alloc _, hr.alloc _, hz, (((Below.refl _ w).alloc (Nat.le_refl _) _).alloc (by simp) _).alloc (by simp; omega) _, by simp⟩
    rcases (show i = 0 ∨ i = 1 ∨ i = 2 ∨ i = 3 by omega) with rfl | rfl | rfl | rfl <;> rfl)
  rw [hW1]
  clear hW1
  refine (no.rights W1 p).mono ?_
  rintro e W2 ⟨rfl, hb⟩
  have HS2 := Lib.hid (HS1.out.later hb)
  obtain ⟨c1, c2, c3⟩ := HS2.out.opc
  clear hb HS1
  go_wp2_with (fail)
  clear c1 c2 c3
  refine (no.runs W2).mono ?_
  rintro e W3 ⟨g0, lb0, own0, rfl, hb, _, hnil0, _, _⟩
  have HS3 := Lib.hid (HS2.out.later hb)
  clear hb HS2
  go_wp2_with (fail)
  refine (no.runs W3).mono ?_
  rintro e W4 ⟨g1, lb1, own1, rfl, hb, hent1, hnil1, hown1, hT1⟩
  have HS4 := Lib.hid (HS3.out.later hb)
  clear hb HS3 hnil0 hnil1
  go_wp2_with (fail)
  refine (wpIn_wide (n := m)).1 ?_
  refine range_nil m hm hT1 hent1 (fun k hk => (hown1 k hk).2) rfl (by simp [go_sem]) (fun D W5 hD hb hk => ?_)
  have hDlo : w.heap.size + 3 ≤ D := Nat.le_trans HS4.out.le hD
  have HS5 := Lib.hid (HS4.out.later hb)
  have HDK := Lib.hid hk
  have hDW := (Array.getElem?_eq_some_iff.1 hk).1
  have hrb : w.heap.size + 3 ≤ W5.heap.size := HS5.out.le
  clear hb hk HS4 hT1 hent1 hown1
  go_wp2_with (fail)
  have hb6 : Below W5.heap.size W5 (W5.alloc (.cells zeroP TArr)).drew := ((Below.refl _ _).alloc (Nat.le_refl _) _).drew
  obtain ⟨X, hX, hXA, hlo⟩ := HS5.out.ar
  have HX := Lib.hid hX
  have HLO := Lib.hid hlo
  have L1 := Lib.hid (show ∀ U, RowAt U w.heap.size 4 (opV ⟨kind, p, c, r⟩) → (loadVar 3 ⟨w.heap.size, 1, none⟩).run Try.prog U = .ok (.int .i64 p) U from fun U hU => run_loadVar_cell (fun _ => by kernel_rfl) (hU.cell 1 (by decide)))
  have L2 := Lib.hid (show ∀ U, RowAt U w.heap.size 4 (opV ⟨kind, p, c, r⟩) → (loadVar 3 ⟨w.heap.size, 2, none⟩).run Try.prog U = .ok (.int .i64 c) U from fun U hU => run_loadVar_cell (fun _ => by kernel_rfl) (hU.cell 2 (by decide)))
  have L3 := Lib.hid (show ∀ U, RowAt U w.heap.size 4 (opV ⟨kind, p, c, r⟩) → (loadVar 5 ⟨w.heap.size, 3, none⟩).run Try.prog U = .ok (.int .u8 r) U from fun U hU => run_loadVar_cell (fun _ => by kernel_rfl) (hU.cell 3 (by decide)))
  refine wp_region_lex1 (fun U => RowAt U w.heap.size 4 (opV ⟨kind, p, c, r⟩)) [(0, false), (1, false), (2, false), (3, false), (4, false), (5, false), (6, false), (7, false), (8, false), (9, false), (10, true), (11, false), (12, false), (13, false), (14, false), (15, false), (16, false), (17, false), (18, false), (19, true), (20, false), (21, false), (22, false), (23, false), (24, false), (25, false), (26, false), (27, false), (28, false), (29, false), (30, true), (31, false), (32, false), (33, false), (34, false), (35, false), (36, false), (37, false), (38, false), (39, true), (40, false), (41, false), (42, false), (43, false), (44, true), (45, false), (46, false), (47, false), (48, false), (49, true), (50, false), (51, false), (52, false), (53, false), (54, false), (55, false), (56, false), (57, false), (58, false), (60, false), (61, false), (62, false), (63, false), (64, false), (65, false), (59, true), (66, true), (67, false), (68, false), (69, false), (70, true), (71, false), (72, false), (73, true), (74, false), (75, true)]
    (by kernel_rfl) (by kernel_rfl) rfl (by kernel_rfl) (HS5.out.later hb6).op ?_
  intro U0 hU0 hK0
  have hb : Below W5.heap.size W5 U0 := by rw [hU0]; exact hb6
  have HF0 := Lib.hid (show FnAt w ⟨kind, p, c, r⟩ D U0 from ⟨HS5.out.op.later hb, HS5.out.res.later hb, (hb.block D hDW).trans HDK.out, (HS5.out.later hb).bel⟩)
  have HXA0 := Lib.hid (X.later hXA hb)
  have HRF0 := Lib.hid (show RefR U0 W5.heap.size (fun _ => 0) from by rw [hU0]; exact (zero_ref W5).later (Below.refl _ _).drew)
  have HDB := Lib.hid (show D ≠ W5.heap.size from by omega)
  clear hb hb6 hU0 hK0 hX hXA hlo hz hv HS5 HDK
  have hDr := HDB.out
  generalize W5.heap.size = rb at *
  simp only [List.append_eq, List.cons_append, List.nil_append]
  refine lexH_yieldE rfl rfl ?_
  apply Exists.intro
  refine ⟨fun W hW => ?_, ?_⟩
  focus (go_simp; exact rfl)
  simp only [List.getElem_toArray, List.getElem_cons_zero, Act.put, List.setIfInBounds_toArray, List.set_cons_zero, List.set_cons_succ]
  refine lexH_yieldE rfl rfl ?_
  apply Exists.intro
  refine ⟨fun W hW => ?_, ?_⟩
  focus (go_simp; exact rfl)
  simp only [List.getElem_toArray, List.getElem_cons_succ, List.getElem_cons_zero, Act.put, List.setIfInBounds_toArray, List.set_cons_zero, List.set_cons_succ]
  refine lexH_yieldE rfl rfl ?_
  apply Exists.intro
  refine ⟨fun W hW => ?_, ?_⟩
  focus (go_simp; exact rfl)
  simp only [List.getElem_toArray, List.getElem_cons_succ, List.getElem_cons_zero, Act.put, List.setIfInBounds_toArray, List.set_cons_zero, List.set_cons_succ]
  refine lexH_yieldE rfl rfl ?_
  apply Exists.intro
  refine ⟨fun W hW => ?_, ?_⟩
  focus (go_simp; exact rfl)
  simp only [List.getElem_toArray, List.getElem_cons_succ, List.getElem_cons_zero, Act.put, List.setIfInBounds_toArray, List.set_cons_zero, List.set_cons_succ]
  refine lexH_yieldE rfl rfl ?_
  apply Exists.intro
  refine ⟨fun W hW => ?_, ?_⟩
  focus (go_simp; exact rfl)
  simp only [List.getElem_toArray, List.getElem_cons_succ, List.getElem_cons_zero, Act.put, List.setIfInBounds_toArray, List.set_cons_zero, List.set_cons_succ]
  refine lexH_load rfl rfl _ _ rfl rfl L1.out ?_
  simp only [List.getElem_toArray, List.getElem_cons_succ, List.getElem_cons_zero, Act.put, List.setIfInBounds_toArray, List.set_cons_zero, List.set_cons_succ]
  refine lexH_yieldE rfl rfl ?_
  apply Exists.intro
  refine ⟨fun W hW => ?_, ?_⟩
  focus (go_simp; exact rfl)
  simp only [List.getElem_toArray, List.getElem_cons_succ, List.getElem_cons_zero, Act.put, List.setIfInBounds_toArray, List.set_cons_zero, List.set_cons_succ]
  refine lexH_load rfl rfl _ _ rfl rfl L2.out ?_
  simp only [List.getElem_toArray, List.getElem_cons_succ, List.getElem_cons_zero, Act.put, List.setIfInBounds_toArray, List.set_cons_zero, List.set_cons_succ]
  refine lexH_yieldE rfl rfl ?_
  apply Exists.intro
  refine ⟨fun W hW => ?_, ?_⟩
  focus (go_simp; exact rfl)
  simp only [List.getElem_toArray, List.getElem_cons_succ, List.getElem_cons_zero, Act.put, List.setIfInBounds_toArray, List.set_cons_zero, List.set_cons_succ]
  refine lexH_load rfl rfl _ _ rfl rfl L3.out ?_
  simp only [List.getElem_toArray, List.getElem_cons_succ, List.getElem_cons_zero, Act.put, List.setIfInBounds_toArray, List.set_cons_zero, List.set_cons_succ]
  refine lexH_call 11 #[.pointer none, .int .i64 p, .int .i64 c, .int .u8 r] rfl rfl ?_ ?_
  focus (go_simp; done)
  refine (no.map _ p c r).mono ?_
  rintro e U1 ⟨rfl, hb⟩
  have HF1 := Lib.hid (HF0.out.later hb)
  have HXA1 := Lib.hid (X.later HXA0.out hb)
  have HRF1 := Lib.hid (HRF0.out.later hb)
  clear hb HF0 HXA0 HRF0
  refine ⟨_, rfl, HF1.out.op, ?_⟩
  simp only [List.getElem_toArray, List.getElem_cons_succ, List.getElem_cons_zero, Act.put, List.setIfInBounds_toArray, List.set_cons_zero, List.set_cons_succ]
  refine lexH_yieldE rfl rfl ?_
  apply Exists.intro
  refine ⟨fun W hW => ?_, ?_⟩
  focus (go_simp; exact rfl)
  simp only [List.getElem_toArray, List.getElem_cons_succ, List.getElem_cons_zero, Act.put, List.setIfInBounds_toArray, List.set_cons_zero, List.set_cons_succ]
  refine lexH_yieldE rfl rfl ?_
  apply Exists.intro
  refine ⟨fun W hW => ?_, ?_⟩
  focus (go_simp; exact rfl)
  simp only [List.getElem_toArray, List.getElem_cons_succ, List.getElem_cons_zero, Act.put, List.setIfInBounds_toArray, List.set_cons_zero, List.set_cons_succ]
  refine lexH_yieldE rfl rfl ?_
  apply Exists.intro
  refine ⟨fun W hW => ?_, ?_⟩
  focus (go_simp; exact rfl)
  simp only [List.getElem_toArray, List.getElem_cons_succ, List.getElem_cons_zero, Act.put, List.setIfInBounds_toArray, List.set_cons_zero, List.set_cons_succ]
  refine lexH_yieldE rfl rfl ?_
  apply Exists.intro
  refine ⟨fun W hW => ?_, ?_⟩
  focus (go_simp; exact rfl)
  simp only [List.getElem_toArray, List.getElem_cons_succ, List.getElem_cons_zero, Act.put, List.setIfInBounds_toArray, List.set_cons_zero, List.set_cons_succ]
  refine lexH_yieldE rfl rfl ?_
  apply Exists.intro
  refine ⟨fun W hW => ?_, ?_⟩
  focus (go_simp; exact rfl)
  simp only [List.getElem_toArray, List.getElem_cons_succ, List.getElem_cons_zero, Act.put, List.setIfInBounds_toArray, List.set_cons_zero, List.set_cons_succ]
  refine lexH_load rfl rfl _ _ rfl rfl L1.out ?_
  simp only [List.getElem_toArray, List.getElem_cons_succ, List.getElem_cons_zero, Act.put, List.setIfInBounds_toArray, List.set_cons_zero, List.set_cons_succ]
  refine lexH_yieldE rfl rfl ?_
  apply Exists.intro
  refine ⟨fun W hW => ?_, ?_⟩
  focus (go_simp; exact rfl)
  simp only [List.getElem_toArray, List.getElem_cons_succ, List.getElem_cons_zero, Act.put, List.setIfInBounds_toArray, List.set_cons_zero, List.set_cons_succ]
  refine lexH_load rfl rfl _ _ rfl rfl L2.out ?_
  simp only [List.getElem_toArray, List.getElem_cons_succ, List.getElem_cons_zero, Act.put, List.setIfInBounds_toArray, List.set_cons_zero, List.set_cons_succ]
  refine lexH_call 13 #[.pointer none, .int .i64 p, .int .i64 c] rfl rfl ?_ ?_
  focus (go_simp; done)
  refine (no.unmap _ p c).mono ?_
  rintro e U2 ⟨rfl, hb⟩
  have HF2 := Lib.hid (HF1.out.later hb)
  have HXA2 := Lib.hid (X.later HXA1.out hb)
  have HRF2 := Lib.hid (HRF1.out.later hb)
  clear hb HF1 HXA1 HRF1
  refine ⟨_, rfl, HF2.out.op, ?_⟩
  simp only [List.getElem_toArray, List.getElem_cons_succ, List.getElem_cons_zero, Act.put, List.setIfInBounds_toArray, List.set_cons_zero, List.set_cons_succ]
  refine lexH_yieldE rfl rfl ?_
  apply Exists.intro
  refine ⟨fun W hW => ?_, ?_⟩
  focus (go_simp; exact rfl)
  simp only [List.getElem_toArray, List.getElem_cons_succ, List.getElem_cons_zero, Act.put, List.setIfInBounds_toArray, List.set_cons_zero, List.set_cons_succ]
  refine lexH_yieldE rfl rfl ?_
  apply Exists.intro
  refine ⟨fun W hW => ?_, ?_⟩
  focus (go_simp; exact rfl)
  simp only [List.getElem_toArray, List.getElem_cons_succ, List.getElem_cons_zero, Act.put, List.setIfInBounds_toArray, List.set_cons_zero, List.set_cons_succ]
  refine lexH_yieldE rfl rfl ?_
  apply Exists.intro
  refine ⟨fun W hW => ?_, ?_⟩
  focus (go_simp; exact rfl)
  simp only [List.getElem_toArray, List.getElem_cons_succ, List.getElem_cons_zero, Act.put, List.setIfInBounds_toArray, List.set_cons_zero, List.set_cons_succ]
  refine lexH_yieldE rfl rfl ?_
  apply Exists.intro
  refine ⟨fun W hW => ?_, ?_⟩
  focus (go_simp; exact rfl)
  simp only [List.getElem_toArray, List.getElem_cons_succ, List.getElem_cons_zero, Act.put, List.setIfInBounds_toArray, List.set_cons_zero, List.set_cons_succ]
  refine lexH_yieldE rfl rfl ?_
  apply Exists.intro
  refine ⟨fun W hW => ?_, ?_⟩
  focus (go_simp; exact rfl)
  simp only [List.getElem_toArray, List.getElem_cons_succ, List.getElem_cons_zero, Act.put, List.setIfInBounds_toArray, List.set_cons_zero, List.set_cons_succ]
  refine lexH_load rfl rfl _ _ rfl rfl L1.out ?_
  simp only [List.getElem_toArray, List.getElem_cons_succ, List.getElem_cons_zero, Act.put, List.setIfInBounds_toArray, List.set_cons_zero, List.set_cons_succ]
  refine lexH_yieldE rfl rfl ?_
  apply Exists.intro
  refine ⟨fun W hW => ?_, ?_⟩
  focus (go_simp; exact rfl)
  simp only [List.getElem_toArray, List.getElem_cons_succ, List.getElem_cons_zero, Act.put, List.setIfInBounds_toArray, List.set_cons_zero, List.set_cons_succ]
  refine lexH_load rfl rfl _ _ rfl rfl L2.out ?_
  simp only [List.getElem_toArray, List.getElem_cons_succ, List.getElem_cons_zero, Act.put, List.setIfInBounds_toArray, List.set_cons_zero, List.set_cons_succ]
  refine lexH_yieldE rfl rfl ?_
  apply Exists.intro
  refine ⟨fun W hW => ?_, ?_⟩
  focus (go_simp; exact rfl)
  simp only [List.getElem_toArray, List.getElem_cons_succ, List.getElem_cons_zero, Act.put, List.setIfInBounds_toArray, List.set_cons_zero, List.set_cons_succ]
  refine lexH_load rfl rfl _ _ rfl rfl L3.out ?_
  simp only [List.getElem_toArray, List.getElem_cons_succ, List.getElem_cons_zero, Act.put, List.setIfInBounds_toArray, List.set_cons_zero, List.set_cons_succ]
  refine lexH_call 15 #[.pointer none, .int .i64 p, .int .i64 c, .int .u8 r] rfl rfl ?_ ?_
  focus (go_simp; done)
  refine (no.protect _ p c r).mono ?_
  rintro e U3 ⟨rfl, hb⟩
  have HF3 := Lib.hid (HF2.out.later hb)
  have HXA3 := Lib.hid (X.later HXA2.out hb)
  have HRF3 := Lib.hid (HRF2.out.later hb)
  clear hb HF2 HXA2 HRF2
  refine ⟨_, rfl, HF3.out.op, ?_⟩
  simp only [List.getElem_toArray, List.getElem_cons_succ, List.getElem_cons_zero, Act.put, List.setIfInBounds_toArray, List.set_cons_zero, List.set_cons_succ]
  refine lexH_yieldE rfl rfl ?_
  apply Exists.intro
  refine ⟨fun W hW => ?_, ?_⟩
  focus (go_simp; exact rfl)
  simp only [List.getElem_toArray, List.getElem_cons_succ, List.getElem_cons_zero, Act.put, List.setIfInBounds_toArray, List.set_cons_zero, List.set_cons_succ]
  refine lexH_yieldE rfl rfl ?_
  apply Exists.intro
  refine ⟨fun W hW => ?_, ?_⟩
  focus (go_simp; exact rfl)
  simp only [List.getElem_toArray, List.getElem_cons_succ, List.getElem_cons_zero, Act.put, List.setIfInBounds_toArray, List.set_cons_zero, List.set_cons_succ]
  refine lexH_yieldE rfl rfl ?_
  apply Exists.intro
  refine ⟨fun W hW => ?_, ?_⟩
  focus (go_simp; exact rfl)
  simp only [List.getElem_toArray, List.getElem_cons_succ, List.getElem_cons_zero, Act.put, List.setIfInBounds_toArray, List.set_cons_zero, List.set_cons_succ]
  refine lexH_yieldE rfl rfl ?_
  apply Exists.intro
  refine ⟨fun W hW => ?_, ?_⟩
  focus (go_simp; exact rfl)
  simp only [List.getElem_toArray, List.getElem_cons_succ, List.getElem_cons_zero, Act.put, List.setIfInBounds_toArray, List.set_cons_zero, List.set_cons_succ]
  refine lexH_yieldE rfl rfl ?_
  apply Exists.intro
  refine ⟨fun W hW => ?_, ?_⟩
  focus (go_simp; exact rfl)
  simp only [List.getElem_toArray, List.getElem_cons_succ, List.getElem_cons_zero, Act.put, List.setIfInBounds_toArray, List.set_cons_zero, List.set_cons_succ]
  refine lexH_load rfl rfl _ _ rfl rfl L1.out ?_
  simp only [List.getElem_toArray, List.getElem_cons_succ, List.getElem_cons_zero, Act.put, List.setIfInBounds_toArray, List.set_cons_zero, List.set_cons_succ]
  refine lexH_yieldE rfl rfl ?_
  apply Exists.intro
  refine ⟨fun W hW => ?_, ?_⟩
  focus (go_simp; exact rfl)
  simp only [List.getElem_toArray, List.getElem_cons_succ, List.getElem_cons_zero, Act.put, List.setIfInBounds_toArray, List.set_cons_zero, List.set_cons_succ]
  refine lexH_load rfl rfl _ _ rfl rfl L2.out ?_
  simp only [List.getElem_toArray, List.getElem_cons_succ, List.getElem_cons_zero, Act.put, List.setIfInBounds_toArray, List.set_cons_zero, List.set_cons_succ]
  refine lexH_call 17 #[.pointer none, .int .i64 p, .int .i64 c] rfl rfl ?_ ?_
  focus (go_simp; done)
  refine (no.mapped _ p c).mono ?_
  rintro e U4 ⟨rfl, hb⟩
  have HF4 := Lib.hid (HF3.out.later hb)
  have HXA4 := Lib.hid (X.later HXA3.out hb)
  have HRF4 := Lib.hid (HRF3.out.later hb)
  clear hb HF3 HXA3 HRF3
  refine ⟨_, rfl, HF4.out.op, ?_⟩
  simp only [List.getElem_toArray, List.getElem_cons_succ, List.getElem_cons_zero, Act.put, List.setIfInBounds_toArray, List.set_cons_zero, List.set_cons_succ]
  refine lexH_yieldE rfl rfl ?_
  apply Exists.intro
  refine ⟨fun W hW => ?_, ?_⟩
  focus (go_simp; exact rfl)
  simp only [List.getElem_toArray, List.getElem_cons_succ, List.getElem_cons_zero, Act.put, List.setIfInBounds_toArray, List.set_cons_zero, List.set_cons_succ]
  refine lexH_yieldE rfl rfl ?_
  apply Exists.intro
  refine ⟨fun W hW => ?_, ?_⟩
  focus (go_simp; exact rfl)
  simp only [List.getElem_toArray, List.getElem_cons_succ, List.getElem_cons_zero, Act.put, List.setIfInBounds_toArray, List.set_cons_zero, List.set_cons_succ]
  refine lexH_yieldE rfl rfl ?_
  apply Exists.intro
  refine ⟨fun W hW => ?_, ?_⟩
  focus (go_simp; exact rfl)
  simp only [List.getElem_toArray, List.getElem_cons_succ, List.getElem_cons_zero, Act.put, List.setIfInBounds_toArray, List.set_cons_zero, List.set_cons_succ]
  refine lexH_yieldE rfl rfl ?_
  apply Exists.intro
  refine ⟨fun W hW => ?_, ?_⟩
  focus (go_simp; exact rfl)
  simp only [List.getElem_toArray, List.getElem_cons_succ, List.getElem_cons_zero, Act.put, List.setIfInBounds_toArray, List.set_cons_zero, List.set_cons_succ]
  refine lexH_call 24 #[.pointer none] rfl rfl ?_ ?_
  focus (go_simp; done)
  refine (no.len _).mono ?_
  rintro e U5 ⟨rfl, hb⟩
  have HF5 := Lib.hid (HF4.out.later hb)
  have HXA5 := Lib.hid (X.later HXA4.out hb)
  have HRF5 := Lib.hid (HRF4.out.later hb)
  clear hb HF4 HXA4 HRF4
  refine ⟨_, rfl, HF5.out.op, ?_⟩
  simp only [List.getElem_toArray, List.getElem_cons_succ, List.getElem_cons_zero, Act.put, List.setIfInBounds_toArray, List.set_cons_zero, List.set_cons_succ]
  refine lexH_yieldE rfl rfl ?_
  apply Exists.intro
  refine ⟨fun W hW => ?_, ?_⟩
  focus (go_simp; exact rfl)
  simp only [List.getElem_toArray, List.getElem_cons_succ, List.getElem_cons_zero, Act.put, List.setIfInBounds_toArray, List.set_cons_zero, List.set_cons_succ]
  refine lexH_yieldE rfl rfl ?_
  apply Exists.intro
  refine ⟨fun W hW => ?_, ?_⟩
  focus (go_simp; exact rfl)
  simp only [List.getElem_toArray, List.getElem_cons_succ, List.getElem_cons_zero, Act.put, List.setIfInBounds_toArray, List.set_cons_zero, List.set_cons_succ]
  refine lexH_yieldE rfl rfl ?_
  apply Exists.intro
  refine ⟨fun W hW => ?_, ?_⟩
  focus (go_simp; exact rfl)
  simp only [List.getElem_toArray, List.getElem_cons_succ, List.getElem_cons_zero, Act.put, List.setIfInBounds_toArray, List.set_cons_zero, List.set_cons_succ]
  refine lexH_yieldE rfl rfl ?_
  apply Exists.intro
  refine ⟨fun W hW => ?_, ?_⟩
  focus (go_simp; exact rfl)
  simp only [List.getElem_toArray, List.getElem_cons_succ, List.getElem_cons_zero, Act.put, List.setIfInBounds_toArray, List.set_cons_zero, List.set_cons_succ]
  refine lexH_call 21 #[.pointer none] rfl rfl ?_ ?_
  focus (go_simp; done)
  refine (no.copy _).mono ?_
  rintro e U6 ⟨rfl, hb⟩
  have HF6 := Lib.hid (HF5.out.later hb)
  have HXA6 := Lib.hid (X.later HXA5.out hb)
  have HRF6 := Lib.hid (HRF5.out.later hb)
  clear hb HF5 HXA5 HRF5
  refine ⟨_, rfl, HF6.out.op, ?_⟩
  simp only [List.getElem_toArray, List.getElem_cons_succ, List.getElem_cons_zero, Act.put, List.setIfInBounds_toArray, List.set_cons_zero, List.set_cons_succ]
  refine lexH_yieldE rfl rfl ?_
  apply Exists.intro
  refine ⟨fun W hW => ?_, ?_⟩
  focus (go_simp; exact rfl)
  simp only [List.getElem_toArray, List.getElem_cons_succ, List.getElem_cons_zero, Act.put, List.setIfInBounds_toArray, List.set_cons_zero, List.set_cons_succ]
  refine lexH_yieldE rfl rfl ?_
  apply Exists.intro
  refine ⟨fun W hW => ?_, ?_⟩
  focus (go_simp; exact rfl)
  simp only [List.getElem_toArray, List.getElem_cons_succ, List.getElem_cons_zero, Act.put, List.setIfInBounds_toArray, List.set_cons_zero, List.set_cons_succ]
  refine lexH_yieldE rfl rfl ?_
  apply Exists.intro
  refine ⟨fun W hW => ?_, ?_⟩
  focus (go_simp; exact rfl)
  simp only [List.getElem_toArray, List.getElem_cons_succ, List.getElem_cons_zero, Act.put, List.setIfInBounds_toArray, List.set_cons_zero, List.set_cons_succ]
  refine lexH_yieldE rfl rfl ?_
  apply Exists.intro
  refine ⟨fun W hW => ?_, ?_⟩
  focus (go_simp; exact rfl)
  simp only [List.getElem_toArray, List.getElem_cons_succ, List.getElem_cons_zero, Act.put, List.setIfInBounds_toArray, List.set_cons_zero, List.set_cons_succ]
  refine lexH_load rfl rfl _ _ rfl rfl L1.out ?_
  simp only [List.getElem_toArray, List.getElem_cons_succ, List.getElem_cons_zero, Act.put, List.setIfInBounds_toArray, List.set_cons_zero, List.set_cons_succ]
  refine lexH_yieldE rfl rfl ?_
  apply Exists.intro
  refine ⟨fun W hW => ?_, ?_⟩
  focus (go_simp; exact rfl)
  simp only [List.getElem_toArray, List.getElem_cons_succ, List.getElem_cons_zero, Act.put, List.setIfInBounds_toArray, List.set_cons_zero, List.set_cons_succ]
  refine lexH_load rfl rfl _ _ rfl rfl L2.out ?_
  simp only [List.getElem_toArray, List.getElem_cons_succ, List.getElem_cons_zero, Act.put, List.setIfInBounds_toArray, List.set_cons_zero, List.set_cons_succ]
  refine lexH_yieldE rfl rfl ?_
  apply Exists.intro
  refine ⟨fun W hW => ?_, ?_⟩
  focus (go_simp; exact rfl)
  simp only [List.getElem_toArray, List.getElem_cons_succ, List.getElem_cons_zero, Act.put, List.setIfInBounds_toArray, List.set_cons_zero, List.set_cons_succ]
  refine lexH_load rfl rfl _ _ rfl rfl L3.out ?_
  simp only [List.getElem_toArray, List.getElem_cons_succ, List.getElem_cons_zero, Act.put, List.setIfInBounds_toArray, List.set_cons_zero, List.set_cons_succ]
  refine lexH_yieldE rfl rfl ?_
  apply Exists.intro
  refine ⟨fun W hW => ?_, ?_⟩
  focus (go_simp; exact rfl)
  simp only [List.getElem_toArray, List.getElem_cons_succ, List.getElem_cons_zero, Act.put, List.setIfInBounds_toArray, List.set_cons_zero, List.set_cons_succ]
  refine lexH_load rfl rfl _ _ rfl rfl L1.out ?_
  simp only [List.getElem_toArray, List.getElem_cons_succ, List.getElem_cons_zero, Act.put, List.setIfInBounds_toArray, List.set_cons_zero, List.set_cons_succ]
  refine lexH_yieldE rfl rfl ?_
  apply Exists.intro
  refine ⟨fun W hW => ?_, ?_⟩
  focus (go_simp; exact rfl)
  simp only [List.getElem_toArray, List.getElem_cons_succ, List.getElem_cons_zero, Act.put, List.setIfInBounds_toArray, List.set_cons_zero, List.set_cons_succ]
  refine lexH_load rfl rfl _ _ rfl rfl L2.out ?_
  simp only [List.getElem_toArray, List.getElem_cons_succ, List.getElem_cons_zero, Act.put, List.setIfInBounds_toArray, List.set_cons_zero, List.set_cons_succ]
  refine lexH_yieldE rfl rfl ?_
  apply Exists.intro
  refine ⟨fun W hW => ?_, ?_⟩
  focus (go_simp; exact rfl)
  simp only [List.getElem_toArray, List.getElem_cons_succ, List.getElem_cons_zero, Act.put, List.setIfInBounds_toArray, List.set_cons_zero, List.set_cons_succ]
  refine lexH_load rfl rfl _ _ rfl rfl L3.out ?_
  simp only [List.getElem_toArray, List.getElem_cons_succ, List.getElem_cons_zero, Act.put, List.setIfInBounds_toArray, List.set_cons_zero, List.set_cons_succ]
  refine lexH_call 11 #[.pointer (some ⟨w.heap.size + 2, 0, none⟩), .int .i64 p, .int .i64 c, .int .u8 r] rfl rfl ?_ ?_
  focus (go_simp; done)
  refine (ok.map p c r HR8.out HX.out HXA6.out).mono ?_
  rintro e U7 ⟨Y, rfl, hY, hT⟩
  have HY := Lib.hid hY
  have HYA7 := Lib.hid hT.at'
  have HYR := Lib.hid (show ¬ Y.has rb from fun h => by
    rcases hT.new rb h with h | h
    · have := HLO.out rb h; omega
    · have := HRF6.out.lt; omega)
  have HF7 := Lib.hid (HF6.out.only hT.only (fun h => by have := HLO.out _ h; omega) (fun h => by have := HLO.out _ h; omega) (fun h => by have := HLO.out _ h; omega) (fun k h => by have := HLO.out _ h; omega))
  have HRF7 := Lib.hid (show RefR U7 rb (fun _ => 0) from HRF6.out.only hT.only (fun h => by have := HLO.out _ h; omega))
  clear hY hT HF6 HXA6 HRF6 HX
  refine ⟨_, rfl, HF7.out.op, ?_⟩
  simp only [List.getElem_toArray, List.getElem_cons_succ, List.getElem_cons_zero, Act.put, List.setIfInBounds_toArray, List.set_cons_zero, List.set_cons_succ]
  refine lexH_call 12 #[.pointer (some ⟨rb, 0, none⟩), .int .i64 p, .int .i64 c, .int .u8 r] rfl rfl ?_ ?_
  focus (go_simp; done)
  refine (rmap_any HRF7.out p c r).mono ?_
  rintro e U8 ⟨rfl, hR, ho⟩
  have HYA8 := Lib.hid (Y.only _ _ _ HYA7.out ho (fun k hk h => HYR.out (h ▸ hk)))
  have HF8 := Lib.hid (HF7.out.only ho (fun h => by omega) (fun h => by omega) (fun h => by omega) (fun k h => by omega))
  have HRF8 := Lib.hid hR
  clear hR ho HF7 HYA7 HRF7
  refine ⟨_, rfl, HF8.out.op, ?_⟩
  simp only [List.getElem_toArray, List.getElem_cons_succ, List.getElem_cons_zero, Act.put, List.setIfInBounds_toArray, List.set_cons_zero, List.set_cons_succ]
  refine lexH_yieldE rfl rfl ?_
  apply Exists.intro
  refine ⟨fun W hW => ?_, ?_⟩
  focus (go_simp; exact rfl)
  simp only [List.getElem_toArray, List.getElem_cons_succ, List.getElem_cons_zero, Act.put, List.setIfInBounds_toArray, List.set_cons_zero, List.set_cons_succ]
  refine lexH_yieldE rfl rfl ?_
  apply Exists.intro
  refine ⟨fun W hW => ?_, ?_⟩
  focus (go_simp; exact rfl)
  simp only [List.getElem_toArray, List.getElem_cons_succ, List.getElem_cons_zero, Act.put, List.setIfInBounds_toArray, List.set_cons_zero, List.set_cons_succ]
  refine lexH_yieldE rfl rfl ?_
  apply Exists.intro
  refine ⟨fun W hW => ?_, ?_⟩
  focus (go_simp; exact rfl)
  simp only [List.getElem_toArray, List.getElem_cons_succ, List.getElem_cons_zero, Act.put, List.setIfInBounds_toArray, List.set_cons_zero, List.set_cons_succ]
  refine lexH_call 22 #[.pointer (some ⟨w.heap.size + 2, 0, none⟩), .pointer (some ⟨rb, 0, none⟩)] rfl rfl ?_ ?_
  focus (go_simp; done)
  refine (callsIn_wide.1 (same_in ok 8 (Nat.le_refl _) HY.out HYA8.out HRF8.out)).mono ?_
  rintro e U9 ⟨rfl, hb⟩
  have HF9 := Lib.hid (HF8.out.later hb)
  clear hb HF8 HYA8 HRF8
  refine ⟨_, rfl, HF9.out.op, ?_⟩
  simp only [List.getElem_toArray, List.getElem_cons_succ, List.getElem_cons_zero, Act.put, List.setIfInBounds_toArray, List.set_cons_zero, List.set_cons_succ]
  refine lexH_yieldE rfl rfl ?_
  apply Exists.intro
  refine ⟨fun W hW => ?_, ?_⟩
  focus (go_simp; exact rfl)
  simp only [List.getElem_toArray, List.getElem_cons_succ, List.getElem_cons_zero, Act.put, List.setIfInBounds_toArray, List.set_cons_zero, List.set_cons_succ]
  refine lexH_yieldE rfl rfl ?_
  apply Exists.intro
  refine ⟨fun W hW => ?_, ?_⟩
  focus (go_simp; exact rfl)
  simp only [List.getElem_toArray, List.getElem_cons_succ, List.getElem_cons_zero, Act.put, List.setIfInBounds_toArray, List.set_cons_zero, List.set_cons_succ]
  refine lexH_call 10 #[] rfl rfl ?_ ?_
  focus (go_simp; done)
  refine (known_any ok _).mono ?_
  rintro e U10 ⟨rfl, hb⟩
  have HF10 := Lib.hid (HF9.out.later hb)
  clear hb HF9
  refine ⟨_, rfl, HF10.out.op, ?_⟩
  simp only [List.getElem_toArray, List.getElem_cons_succ, List.getElem_cons_zero, Act.put, List.setIfInBounds_toArray, List.set_cons_zero, List.set_cons_succ]
  refine lexH_yieldE rfl rfl ?_
  apply Exists.intro
  refine ⟨fun W hW => ?_, ?_⟩
  focus (go_simp; exact rfl)
  simp only [List.getElem_toArray, List.getElem_cons_succ, List.getElem_cons_zero, Act.put, List.setIfInBounds_toArray, List.set_cons_zero, List.set_cons_succ]
  have cr : U10.cell? ⟨w.heap.size + 1, 0, none⟩ = some (.bool false) := HF10.out.res.cell 0 (by decide)
  have fr : U10.frozen? ⟨w.heap.size + 1, 0, none⟩ = false := HF10.out.res.frozen 0
  have HO := Lib.hid (Only.setCell (S := fun k => k = w.heap.size + 1) U10 ⟨w.heap.size + 1, 0, none⟩ rfl (.bool true))
  have HRS := Lib.hid (HF10.out.res.setCell 0 (.bool true))
  refine lexH_eff rfl rfl ?_
  unfold Oper.wp
  go_simp
  refine ⟨HF10.out.op.only HO.out (by omega), ?_⟩
  refine lexH_nil ?_
  clear cr fr L1 L2 L3
  generalize U10.setCell ⟨w.heap.size + 1, 0, none⟩ (.bool true) = V at *
  go_wp2_with (fail)
  have HDV := Lib.hid ((HO.out.block D (Array.getElem?_eq_some_iff.1 HF10.out.dk).1 (by omega)).trans HF10.out.dk)
  have HBV := Lib.hid (HO.out.below HF10.out.bel HF10.out.bel.size (fun k hk => by omega))
  refine leaves_many [D] _ (by simp) (fun E hE => ?_) (fun W' ho2 hs2 => ⟨.bool true, ?_, rfl, ?_⟩)
  · rw [List.mem_singleton] at hE
    subst hE
    exact HDV.out
  · have hc := ho2.cell (b := w.heap.size + 1) (o := 0) (v := .bool true) (fun h => by
      rw [List.mem_singleton] at h
      omega) (HRS.out.cell 0 (by decide))
    simp [results, Try.f4, go_sem, hc]
  · exact ho2.below HBV.out HBV.out.size (fun E hE => by
      rw [List.mem_singleton] at hE
      omega)
theorem lawANone_any (kind p c : Int) (r : Nat) (hr8 : Okp p r) (w : World) :
    Calls Try.prog 4 #[.agg #[.int .i64 kind, .int .i64 p, .int .i64 c, .int .u8 r]] w fun e w' => e = .returned (.bool true) ∧ Below w.heap.size w w' :=
  callsIn_wide.1 (lawANone_in ok no 8 (Nat.le_refl _) kind p c r hr8 w)
end
end Go.Proofs.Ythnkbipdlepbaaa
