/-
  rmap: the landed map as it lies: two cells, a row of whose frames are, a map of frames by pages; Frames, missing, has, may, Get.
-/
import Derived.Test.YtjjcbbnnilafdaaRmFm
import Derived.Test.YtjjcbbnnilafdaaRmRef
import Derived.Test.YtjjcbbnnilafdaaKit
import Derived.BigQuiet
namespace Go.Proofs.Ytjjcbbnnilafdaa
open Go.RowKit Go.Shelf Go Go.Maps
attribute [local go_sem] Oper.semAt_some

abbrev TOw : TypeId := 57
abbrev TMp : TypeId := 51
def keyOw (p : Int × Int) : Value := .agg #[.int .i64 p.1, .int .i64 p.2]
theorem keyType_ow : Try.prog.keyType 57 = true := by kernel_rfl
theorem cellsOf_ow : Try.prog.cellsOf 57 = 2 := by kernel_rfl
theorem cellsOf_int : Try.prog.cellsOf 3 = 1 := by kernel_rfl
theorem law_ow : Keyed Try.prog 57 :=
  Keyed.of_law (deep_law_laid laidOut (m := 2) (by omega) (of_decide_eq_true (by kernel_rfl)) (by kernel_rfl) (by kernel_rfl))
theorem types_two : ∃ m, Try.prog.types.size = m + 1 := ⟨Try.prog.types.size - 1, by
  have h : (57 : Nat) < Try.prog.types.size := of_decide_eq_true (by kernel_rfl)
  omega⟩
theorem keyOf_ow (x y : Int) (hx : (Lit.int .i64 x).wf = true) (hy : (Lit.int .i64 y).wf = true) : keyOf Try.prog 57 (keyOw (x, y)) = some (.string (keyBytes [.int .i64 x, .int .i64 y])) := by
  obtain ⟨m, hm⟩ := types_two
  have hf : (keyOw (x, y)).formed Try.prog 57 = true := by
    simp [keyOw, Value.formed, Try.underlying57, cellsOf_ow]
  unfold keyOf
  rw [Try.underlying57]
  simp only [keyType_ow, hf, Bool.and_self, if_true]
  rw [hm]
  simp [keyOw, Value.cells, Program.keyLits, Try.underlying57, Try.underlying3, cellsOf_ow, cellsOf_int, hx, hy]
noncomputable def KO : KeyE Try.prog 57 (Int × Int) :=
  ⟨keyOw, fun p => (Lit.int .i64 p.1).wf = true ∧ (Lit.int .i64 p.2).wf = true, fun p => .string (keyBytes [.int .i64 p.1, .int .i64 p.2]), law_ow, fun p hp => keyOf_ow p.1 p.2 hp.1 hp.2, fun p q h => by
    obtain ⟨a, b⟩ := p
    obtain ⟨c, d⟩ := q
    simp only [keyOw, Value.agg.injEq] at h
    injection h with h
    injection h with h1 h2
    injection h2 with h2 _
    injection h1 with _ h1
    injection h2 with _ h2
    rw [h1, h2]⟩
noncomputable abbrev EI : Elem (plainElem Try.prog 3) Int := elemInt (P := Try.prog) (e := 3) Try.underlying3
theorem int_wf {x : Int} (h : -9223372036854775808 ≤ x ∧ x ≤ 9223372036854775807) : (Lit.int .i64 x).wf = true := by
  simp only [Lit.wf, Bool.and_eq_true, decide_eq_true_eq]
  exact ⟨h.1, h.2⟩
theorem zeroI (w : World) : (zeroValue 3).run Try.prog w = .ok (.int .i64 0) w := by kernel_rfl
theorem ow_no (W : World) : (binOp .eql 57 (.agg #[.int .i64 0, .int .i64 0]) (.agg #[.int .i64 0, .int .i64 0])).run Try.prog W = .ok (.bool true) W := by kernel_rfl
theorem ow_yes1 (k : Nat) (y : Int) (W : World) : (binOp .eql 57 (.agg #[.int .i64 (Int.ofNat (k + 1)), .int .i64 y]) (.agg #[.int .i64 0, .int .i64 0])).run Try.prog W = .ok (.bool false) W := by kernel_rfl
theorem ow_yes2 (k : Nat) (y : Int) (W : World) : (binOp .eql 57 (.agg #[.int .i64 (Int.negSucc k), .int .i64 y]) (.agg #[.int .i64 0, .int .i64 0])).run Try.prog W = .ok (.bool false) W := by kernel_rfl
theorem ow_yes {x y : Int} (h : x ≠ 0) (W : World) : (binOp .eql 57 (.agg #[.int .i64 x, .int .i64 y]) (.agg #[.int .i64 0, .int .i64 0])).run Try.prog W = .ok (.bool false) W := by
  cases x with
  | ofNat n =>
    cases n with
    | zero => exact absurd rfl h
    | succ k => exact ow_yes1 k y W
  | negSucc k => exact ow_yes2 k y W
theorem ow_noN (W : World) : (binOp .neq 57 (.agg #[.int .i64 0, .int .i64 0]) (.agg #[.int .i64 0, .int .i64 0])).run Try.prog W = .ok (.bool false) W := by kernel_rfl
theorem ow_yesN1 (k : Nat) (y : Int) (W : World) : (binOp .neq 57 (.agg #[.int .i64 (Int.ofNat (k + 1)), .int .i64 y]) (.agg #[.int .i64 0, .int .i64 0])).run Try.prog W = .ok (.bool true) W := by kernel_rfl
theorem ow_yesN2 (k : Nat) (y : Int) (W : World) : (binOp .neq 57 (.agg #[.int .i64 (Int.negSucc k), .int .i64 y]) (.agg #[.int .i64 0, .int .i64 0])).run Try.prog W = .ok (.bool true) W := by kernel_rfl
theorem ow_yesN {x y : Int} (h : x ≠ 0) (W : World) : (binOp .neq 57 (.agg #[.int .i64 x, .int .i64 y]) (.agg #[.int .i64 0, .int .i64 0])).run Try.prog W = .ok (.bool true) W := by
  cases x with
  | ofNat n =>
    cases n with
    | zero => exact absurd rfl h
    | succ k => exact ow_yesN1 k y W
  | negSucc k => exact ow_yesN2 k y W
theorem map_not (b : Nat) (W : World) : (binOp .eql 51 (.map (some b)) (.map none)).run Try.prog W = .ok (.bool false) W := by kernel_rfl
theorem map_nil (W : World) : (binOp .eql 51 (.map none) (.map none)).run Try.prog W = .ok (.bool true) W := by kernel_rfl
theorem infoOw : (Try.prog.info? 57).map (fun i => (i.zero, i.size, i.bytes)) = some (some (.agg #[.int .i64 0, .int .i64 0]), 2, 16) := by kernel_rfl
theorem sizeOw : (Try.prog.info? 57).map (·.size) = some 2 := by kernel_rfl
theorem load_ow {W : World} {g o : Nat} {x y : Int} (h0 : W.cell? ⟨g, o, none⟩ = some (.int .i64 x)) (h1 : W.cell? ⟨g, o + 1, none⟩ = some (.int .i64 y)) :
    (loadVar 57 ⟨g, o, none⟩).run Try.prog W = .ok (.agg #[.int .i64 x, .int .i64 y]) W :=
  run_loadVar_mid (P := Try.prog) W g o 57 [.int .i64 x, .int .i64 y] _ (fun j v hj => by
    match j, hj with
    | 0, hj => simp at hj; subst hj; exact h0
    | 1, hj => simp at hj; subst hj; exact h1) Try.underlying57 rfl sizeOw
def mpV (v : Value) (mb : Nat) (i : Nat) : Value := if i = 0 then v else .map (some mb)
/-- The landed map lies at p: its row v, its map mb. -/
structure OwAt (w : World) (p : Nat) (v : Value) (mb N : Nat) (f : Nat → Ownr) : Prop where
  row : RowAt w p 2 (mpV v mb)
  ow : w.ownsRow 0 TOw 2 v N (owL f N)
  mp : LMap Try.prog TOw KO EI w mb (fmO f N)
  pv : v.ownBlock ≠ some p
  pm : mb ≠ p
  vm : v.ownBlock ≠ some mb
section
variable {w w' : World} {p mb N : Nat} {v : Value} {f : Nat → Ownr}
def OwAt.has (p : Nat) (v : Value) (mb k : Nat) : Prop := k = p ∨ v.ownBlock = some k ∨ k = mb
theorem OwAt.lt (h : OwAt w p v mb N f) {k : Nat} (hk : OwAt.has p v mb k) : k < w.heap.size := by
  rcases hk with rfl | hk | rfl
  · exact h.row.lt
  · exact (h.ow.lt k hk).2
  · exact h.mp.lt
theorem OwAt.only {S : Nat → Prop} (h : OwAt w p v mb N f) (ho : Only S w w') (hs : ∀ k, OwAt.has p v mb k → ¬ S k) : OwAt w' p v mb N f :=
  ⟨h.row.only ho (hs _ (.inl rfl)), owns_only h.ow ho (fun k hk => hs k (.inr (.inl hk))), h.mp.only ho (hs _ (.inr (.inr rfl))), h.pv, h.pm, h.vm⟩
theorem OwAt.later (h : OwAt w p v mb N f) (hb : Below w.heap.size w w') : OwAt w' p v mb N f := h.only (Only.of_below (S := fun _ => False) hb) (fun _ _ h => h)
theorem OwAt.c0 (h : OwAt w p v mb N f) : w.cell? ⟨p, 0, none⟩ = some v := h.row.cell 0 (by decide)
theorem OwAt.c1 (h : OwAt w p v mb N f) : w.cell? ⟨p, 1, none⟩ = some (.map (some mb)) := h.row.cell 1 (by decide)
/-- Whose a frame is. -/
theorem OwAt.at (h : OwAt w p v mb N f) {i : Nat} (hi : i < N) {y1 y2 : Nat} (hy : f i = (y1, y2)) :
    ∃ g c, v = .slice (some ⟨g, 0, none⟩) N c ∧ v.ownBlock = some g ∧ w.cell? ⟨g, i * 2, none⟩ = some (.int .i64 y1) ∧ w.cell? ⟨g, i * 2 + 1, none⟩ = some (.int .i64 y2) ∧ (∀ j, w.frozen? ⟨g, j, none⟩ = false) := by
  obtain ⟨g, c, e, _, ho, _, hc, hz⟩ := owns_where h.ow (by omega)
  have h0 := hc (i * 2) _ (by omega) (owL_at (f := f) (N := N) (j := i * 2) (by omega))
  have h1 := hc (i * 2 + 1) _ (by omega) (owL_at (f := f) (N := N) (j := i * 2 + 1) (by omega))
  rw [owV, if_pos (by omega), show i * 2 / 2 = i by omega, hy] at h0
  rw [owV, if_neg (by omega), show (i * 2 + 1) / 2 = i by omega, hy] at h1
  exact ⟨g, c, e, ho, h0, h1, hz⟩
/-- As a thing. -/
def thO (p : Nat) (v : Value) (mb N : Nat) (f : Nat → Ownr) : Thg := ⟨fun w => OwAt w p v mb N f, OwAt.has p v mb, fun _ _ _ h ho hs => h.only ho hs, fun _ h _ hk => h.lt hk⟩
def IsMp (X : Thg) (d N : Nat) (f : Nat → Ownr) : Prop := (∃ v mb, X = thO d v mb N f) ∧ RmI f N
set_option maxRecDepth 100000 in
theorem missing_any (h : OwAt w p v mb N f) : Calls Try.prog 20 #[.pointer (some ⟨p, 0, none⟩)] w fun e w' => e = .returned (.bool false) ∧ w = w' := by
  have c1 := h.c1
  have hm := map_not mb
  clear h
  go_enter Try.func20, Try.ntmps20
  go_wp2_with (fail)
  go_ret
  exact ⟨rfl, rfl⟩
set_option maxRecDepth 100000 in
theorem frames_mp (h : OwAt w p v mb N f) : Calls Try.prog 11 #[.pointer (some ⟨p, 0, none⟩)] w fun e w' => e = .returned (.int .i64 N) ∧ w = w' := by
  have c0 := h.c0
  obtain ⟨a, c, rfl, _⟩ := owns_slice h.ow
  clear h
  go_enter Try.func11, Try.ntmps11
  go_wp2_with (fail)
  go_ret
  exact ⟨rfl, rfl⟩
set_option maxRecDepth 100000 in
set_option maxHeartbeats 2000000 in
theorem has_any (h : OwAt w p v mb N f) (x : Int) : Calls Try.prog 21 #[.pointer (some ⟨p, 0, none⟩), .int .i64 x] w fun e w' => e = .returned (.bool (decide (FrOk N x))) ∧ w = w' := by
  have c0 := h.c0
  obtain ⟨a, c, rfl, _⟩ := owns_slice h.ow
  clear h
  by_cases h0 : 0 ≤ x
  · by_cases h1 : x < (N : Int)
    · rw [show decide (FrOk N x) = true from decide_eq_true ⟨h0, h1⟩]
      go_enter Try.func21, Try.ntmps21
      go_wp2_with (fail)
      go_ret
      exact ⟨rfl, rfl⟩
    · rw [show decide (FrOk N x) = false from decide_eq_false (fun h => h1 h.2)]
      go_enter Try.func21, Try.ntmps21
      go_wp2_with (fail)
      go_ret
      exact ⟨rfl, rfl⟩
  · rw [show decide (FrOk N x) = false from decide_eq_false (fun h => h0 h.1)]
    go_enter Try.func21, Try.ntmps21
    go_wp2_with (fail)
    go_ret
    exact ⟨rfl, rfl⟩
set_option maxRecDepth 100000 in
set_option maxHeartbeats 2000000 in
theorem may_any (w : World) (a b : Int) : Calls Try.prog 22 #[.agg #[.int .i64 a, .int .i64 b]] w fun e w' => e = .returned (.bool (decide (PgOk a b))) ∧ Below w.heap.size w w' := by
  have hb := Lib.hid ((Below.refl w.heap.size w).alloc (Nat.le_refl _) (.cells #[.int .i64 a, .int .i64 b] 57))
  have k0 : (w.alloc (.cells #[.int .i64 a, .int .i64 b] 57)).cell? ⟨w.heap.size, 0, none⟩ = some (.int .i64 a) := by simp [go_sem]
  have k1 : (w.alloc (.cells #[.int .i64 a, .int .i64 b] 57)).cell? ⟨w.heap.size, 1, none⟩ = some (.int .i64 b) := by simp [go_sem]
  by_cases h1 : 1 ≤ a
  · by_cases h2 : a ≤ 8
    · by_cases h3 : 0 ≤ b
      · by_cases h4 : b < 1024
        · rw [show decide (PgOk a b) = true from decide_eq_true ⟨h1, h2, h3, by omega⟩]
          go_enter Try.func22, Try.ntmps22
          go_wp2_with (fail)
          go_ret
          exact ⟨rfl, hb.out⟩
        · rw [show decide (PgOk a b) = false from decide_eq_false (fun h => h4 (by have := h.2.2.2; omega))]
          go_enter Try.func22, Try.ntmps22
          go_wp2_with (fail)
          go_ret
          exact ⟨rfl, hb.out⟩
      · rw [show decide (PgOk a b) = false from decide_eq_false (fun h => h3 h.2.2.1)]
        go_enter Try.func22, Try.ntmps22
        go_wp2_with (fail)
        go_ret
        exact ⟨rfl, hb.out⟩
    · rw [show decide (PgOk a b) = false from decide_eq_false (fun h => h2 h.2.1)]
      go_enter Try.func22, Try.ntmps22
      go_wp2_with (fail)
      go_ret
      exact ⟨rfl, hb.out⟩
  · rw [show decide (PgOk a b) = false from decide_eq_false (fun h => h1 h.1)]
    go_enter Try.func22, Try.ntmps22
    go_wp2_with (fail)
    go_ret
    exact ⟨rfl, hb.out⟩
end
end Go.Proofs.Ytjjcbbnnilafdaa
