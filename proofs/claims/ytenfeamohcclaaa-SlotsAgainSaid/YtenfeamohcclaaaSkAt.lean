/-
  slots: the landed slots as they lie: two cells (made or not, a row of whose slots are); missing, Len, has, may, Owner, taken.
-/
import Derived.Test.YtenfeamohcclaaaRmFm
import Derived.Test.YtenfeamohcclaaaSlOk
import Derived.Test.YtenfeamohcclaaaKit
import Derived.BigQuiet
namespace Go.Proofs.Ytenfeamohcclaaa
open Go.RowKit Go.Shelf Go
attribute [local go_sem] Oper.semAt_some

abbrev TOw : TypeId := 58
theorem ow_noN (W : World) : (binOp .neq 58 (.agg #[.int .i64 0, .int .i64 0]) (.agg #[.int .i64 0, .int .i64 0])).run Try.prog W = .ok (.bool false) W := by kernel_rfl
theorem ow_yesN1 (k : Nat) (y : Int) (W : World) : (binOp .neq 58 (.agg #[.int .i64 (Int.ofNat (k + 1)), .int .i64 y]) (.agg #[.int .i64 0, .int .i64 0])).run Try.prog W = .ok (.bool true) W := by kernel_rfl
theorem ow_yesN {x : Nat} {y : Int} (h : x ≠ 0) (W : World) : (binOp .neq 58 (.agg #[.int .i64 (x : Int), .int .i64 y]) (.agg #[.int .i64 0, .int .i64 0])).run Try.prog W = .ok (.bool true) W := by
  cases x with
  | zero => exact absurd rfl h
  | succ k => exact ow_yesN1 k y W
theorem ow_same (W : World) : (binOp .eql 58 (.agg #[.int .i64 0, .int .i64 0]) (.agg #[.int .i64 0, .int .i64 0])).run Try.prog W = .ok (.bool true) W := by kernel_rfl
theorem ow_else1 (k : Nat) (y : Int) (W : World) : (binOp .eql 58 (.agg #[.int .i64 0, .int .i64 0]) (.agg #[.int .i64 (Int.ofNat (k + 1)), .int .i64 y])).run Try.prog W = .ok (.bool false) W := by kernel_rfl
theorem ow_else {x : Nat} {y : Int} (h : x ≠ 0) (W : World) : (binOp .eql 58 (.agg #[.int .i64 0, .int .i64 0]) (.agg #[.int .i64 (x : Int), .int .i64 y])).run Try.prog W = .ok (.bool false) W := by
  cases x with
  | zero => exact absurd rfl h
  | succ k => exact ow_else1 k y W
theorem infoOw : (Try.prog.info? 58).map (fun i => (i.zero, i.size, i.bytes)) = some (some (.agg #[.int .i64 0, .int .i64 0]), 2, 16) := by kernel_rfl
theorem sizeOw : (Try.prog.info? 58).map (·.size) = some 2 := by kernel_rfl
theorem load_ow {W : World} {g o : Nat} {x y : Int} (h0 : W.cell? ⟨g, o, none⟩ = some (.int .i64 x)) (h1 : W.cell? ⟨g, o + 1, none⟩ = some (.int .i64 y)) :
    (loadVar 58 ⟨g, o, none⟩).run Try.prog W = .ok (.agg #[.int .i64 x, .int .i64 y]) W :=
  run_loadVar_mid (P := Try.prog) W g o 58 [.int .i64 x, .int .i64 y] _ (fun j v hj => by
    match j, hj with
    | 0, hj => simp at hj; subst hj; exact h0
    | 1, hj => simp at hj; subst hj; exact h1) Try.underlying58 rfl sizeOw
def skV (m : Bool) (v : Value) (i : Nat) : Value := if i = 0 then .bool m else v
/-- The landed slots lie at p: made or not, their row v. -/
structure SkAt (w : World) (p : Nat) (m : Bool) (v : Value) (N : Nat) (f : Nat → Ownr) : Prop where
  row : RowAt w p 2 (skV m v)
  ow : w.ownsRow 0 TOw 2 v N (owL f N)
  pv : v.ownBlock ≠ some p
section
variable {w w' : World} {p N : Nat} {m : Bool} {v : Value} {f : Nat → Ownr}
def SkAt.has (p : Nat) (v : Value) (k : Nat) : Prop := k = p ∨ v.ownBlock = some k
theorem SkAt.lt (h : SkAt w p m v N f) {k : Nat} (hk : SkAt.has p v k) : k < w.heap.size := by
  rcases hk with rfl | hk
  · exact h.row.lt
  · exact (h.ow.lt k hk).2
theorem SkAt.only {S : Nat → Prop} (h : SkAt w p m v N f) (ho : Only S w w') (hs : ∀ k, SkAt.has p v k → ¬ S k) : SkAt w' p m v N f :=
  ⟨h.row.only ho (hs _ (.inl rfl)), owns_only h.ow ho (fun k hk => hs k (.inr hk)), h.pv⟩
theorem SkAt.later (h : SkAt w p m v N f) (hb : Below w.heap.size w w') : SkAt w' p m v N f := h.only (Only.of_below (S := fun _ => False) hb) (fun _ _ h => h)
theorem SkAt.c0 (h : SkAt w p m v N f) : w.cell? ⟨p, 0, none⟩ = some (.bool m) := h.row.cell 0 (by decide)
theorem SkAt.c1 (h : SkAt w p m v N f) : w.cell? ⟨p, 1, none⟩ = some v := h.row.cell 1 (by decide)
/-- Whose a slot is. -/
theorem SkAt.at (h : SkAt w p m v N f) {i : Nat} (hi : i < N) {y1 y2 : Nat} (hy : f i = (y1, y2)) :
    ∃ g c, v = .slice (some ⟨g, 0, none⟩) N c ∧ v.ownBlock = some g ∧ w.cell? ⟨g, i * 2, none⟩ = some (.int .i64 y1) ∧ w.cell? ⟨g, i * 2 + 1, none⟩ = some (.int .i64 y2) ∧ (∀ j, w.frozen? ⟨g, j, none⟩ = false) := by
  obtain ⟨g, c, e, _, ho, _, hc, hz⟩ := owns_where h.ow (by omega)
  have h0 := hc (i * 2) _ (by omega) (owL_at (f := f) (N := N) (j := i * 2) (by omega))
  have h1 := hc (i * 2 + 1) _ (by omega) (owL_at (f := f) (N := N) (j := i * 2 + 1) (by omega))
  rw [owV, if_pos (by omega), show i * 2 / 2 = i by omega, hy] at h0
  rw [owV, if_neg (by omega), show (i * 2 + 1) / 2 = i by omega, hy] at h1
  exact ⟨g, c, e, ho, h0, h1, hz⟩
/-- As a thing. -/
def thS (p : Nat) (m : Bool) (v : Value) (N : Nat) (f : Nat → Ownr) : Thg := ⟨fun w => SkAt w p m v N f, SkAt.has p v, fun _ _ _ h ho hs => h.only ho hs, fun _ h _ hk => h.lt hk⟩
def IsSk (X : Thg) (d N : Nat) (f : Nat → Ownr) : Prop := (∃ v, X = thS d true v N f) ∧ SlI f N
/-- Slots that are there or not (d = none: no slots, N = 0). -/
def SkMay (w : World) (d : Option Nat) (m : Bool) (N : Nat) (f : Nat → Ownr) : Prop := match d with
  | none => m = false ∧ N = 0
  | some p => ∃ v, SkAt w p m v N f
theorem SkMay.later {d : Option Nat} (h : SkMay w d m N f) (hb : Below w.heap.size w w') : SkMay w' d m N f := by
  cases d with
  | none => exact h
  | some p =>
    obtain ⟨v, h⟩ := h
    exact ⟨v, h.later hb⟩
set_option maxRecDepth 100000 in
theorem missing_sk {d : Option Nat} (h : SkMay w d m N f) : Calls Try.prog 21 #[.pointer (d.map fun d => ⟨d, 0, none⟩)] w fun e w' => e = .returned (.bool (!m)) ∧ w = w' := by
  cases d with
  | none =>
    obtain ⟨rfl, rfl⟩ := h
    go_enter Try.func21, Try.ntmps21
    go_wp2_with (fail)
    go_ret
    exact ⟨rfl, rfl⟩
  | some p =>
    obtain ⟨v, h⟩ := h
    have c0 := h.c0
    clear h
    go_enter Try.func21, Try.ntmps21
    go_wp2_with (fail)
    go_ret
    exact ⟨rfl, rfl⟩
set_option maxRecDepth 100000 in
theorem len_sk {d : Option Nat} (h : SkMay w d m N f) : Calls Try.prog 11 #[.pointer (d.map fun d => ⟨d, 0, none⟩)] w fun e w' => e = .returned (.int .i64 N) ∧ w = w' := by
  cases d with
  | none =>
    obtain ⟨rfl, rfl⟩ := h
    go_enter Try.func11, Try.ntmps11
    go_wp2_with (fail)
    go_ret
    exact ⟨rfl, rfl⟩
  | some p =>
    obtain ⟨v, h⟩ := h
    have c1 := h.c1
    obtain ⟨a, c, rfl, _⟩ := owns_slice h.ow
    clear h
    go_enter Try.func11, Try.ntmps11
    go_wp2_with (fail)
    go_ret
    exact ⟨rfl, rfl⟩
set_option maxRecDepth 100000 in
set_option maxHeartbeats 2000000 in
theorem has_sk {d : Option Nat} (h : SkMay w d m N f) (x : Int) : Calls Try.prog 25 #[.pointer (d.map fun d => ⟨d, 0, none⟩), .int .i64 x] w fun e w' => e = .returned (.bool (decide (FrOk N x))) ∧ w = w' := by
  have HL := Lib.hid (len_sk h)
  clear h
  generalize (Option.map (fun d => (⟨d, 0, none⟩ : Addr)) d) = D at *
  by_cases h0 : 0 ≤ x
  · by_cases h1 : x < (N : Int)
    · rw [show decide (FrOk N x) = true from decide_eq_true ⟨h0, h1⟩]
      go_enter Try.func25, Try.ntmps25
      go_wp2_with (fail)
      refine HL.out.mono ?_
      rintro e w1 ⟨rfl, rfl⟩
      go_wp2_with (fail)
      go_ret
      exact ⟨rfl, rfl⟩
    · rw [show decide (FrOk N x) = false from decide_eq_false (fun h => h1 h.2)]
      have h2 : decide (x < (N : Int)) = false := decide_eq_false h1
      go_enter Try.func25, Try.ntmps25
      go_wp2_with (fail)
      refine HL.out.mono ?_
      rintro e w1 ⟨rfl, rfl⟩
      go_wp2_with (fail)
      go_ret
      exact ⟨rfl, rfl⟩
  · rw [show decide (FrOk N x) = false from decide_eq_false (fun h => h0 h.1)]
    go_enter Try.func25, Try.ntmps25
    go_wp2_with (fail)
    go_ret
    exact ⟨rfl, rfl⟩
set_option maxRecDepth 100000 in
set_option maxHeartbeats 2000000 in
theorem may_sk (w : World) (a b : Int) : Calls Try.prog 22 #[.agg #[.int .i64 a, .int .i64 b]] w fun e w' => e = .returned (.bool (decide (PgOk a b))) ∧ Below w.heap.size w w' := by
  have hb := Lib.hid ((Below.refl w.heap.size w).alloc (Nat.le_refl _) (.cells #[.int .i64 a, .int .i64 b] 58))
  have k0 : (w.alloc (.cells #[.int .i64 a, .int .i64 b] 58)).cell? ⟨w.heap.size, 0, none⟩ = some (.int .i64 a) := by simp [go_sem]
  have k1 : (w.alloc (.cells #[.int .i64 a, .int .i64 b] 58)).cell? ⟨w.heap.size, 1, none⟩ = some (.int .i64 b) := by simp [go_sem]
  by_cases h1 : 1 ≤ a
  · by_cases h2 : a ≤ 8
    · by_cases h3 : 0 ≤ b
      · by_cases h4 : b < 1024
        · rw [show decide (PgOk a b) = true from decide_eq_true ⟨h1, h2, h3, by omega⟩]
          go_enter Try.func22, Try.ntmps22
          go_wp2_with (fail)
          go_ret
          exact ⟨rfl, hb.out⟩
        · rw [show decide (PgOk a b) = false from decide_eq_false (fun h => h4 (by have := h.2.2.2; omega))]
          go_enter Try.func22, Try.ntmps22
          go_wp2_with (fail)
          go_ret
          exact ⟨rfl, hb.out⟩
      · rw [show decide (PgOk a b) = false from decide_eq_false (fun h => h3 h.2.2.1)]
        go_enter Try.func22, Try.ntmps22
        go_wp2_with (fail)
        go_ret
        exact ⟨rfl, hb.out⟩
    · rw [show decide (PgOk a b) = false from decide_eq_false (fun h => h2 h.2.1)]
      go_enter Try.func22, Try.ntmps22
      go_wp2_with (fail)
      go_ret
      exact ⟨rfl, hb.out⟩
  · rw [show decide (PgOk a b) = false from decide_eq_false (fun h => h1 h.1)]
    go_enter Try.func22, Try.ntmps22
    go_wp2_with (fail)
    go_ret
    exact ⟨rfl, hb.out⟩
set_option maxRecDepth 100000 in
set_option maxHeartbeats 2000000 in
theorem owner_sk {d : Option Nat} (h : SkMay w d m N f) (I : SlI f N) (x : Int) : Calls Try.prog 17 #[.pointer (d.map fun d => ⟨d, 0, none⟩), .int .i64 x] w fun e w' =>
    e = .returned (.tuple #[.int .i64 (rgO f N x).1, .int .i64 (rgO f N x).2, .bool (decide ((rgO f N x).1 ≠ 0))]) ∧ Below w.heap.size w w' := by
  have HH := Lib.hid (has_sk h x)
  by_cases hx : FrOk N x
  · obtain ⟨X, rfl⟩ : ∃ X : Nat, x = X := ⟨x.toNat, by have := hx.1; omega⟩
    have hlt : X < N := by have := hx.2; omega
    obtain ⟨⟨y1, y2⟩, hy⟩ : ∃ y, f X = y := ⟨_, rfl⟩
    rw [show rgO f N (X : Int) = (y1, y2) from by rw [rgO, if_pos hx, Int.toNat_natCast, hy]]
    rw [decide_eq_true hx] at HH
    cases d with
    | none =>
      have := h.2
      omega
    | some p =>
      obtain ⟨v, h⟩ := h
      obtain ⟨g, c, hv, _, k0, k1, _⟩ := h.at hlt hy
      have hno : y1 = 0 → y2 = 0 := fun e => by
        have h3 := I.no X hlt (by rw [hy]; exact e)
        rw [hy] at h3
        exact congrArg Prod.snd h3
      have c1 := h.c1
      subst hv
      have hltI : (X : Int) < (N : Int) := by omega
      dsimp only
      simp only [Option.map_some] at *
      clear h I hy hx
      have HB := Lib.hid ((Below.refl w.heap.size w).alloc (Nat.le_refl _) (.cells #[.int .i64 (y1 : Int), .int .i64 (y2 : Int)] 58))
      have b0 : (w.alloc (.cells #[.int .i64 (y1 : Int), .int .i64 (y2 : Int)] 58)).cell? ⟨w.heap.size, 0, none⟩ = some (.int .i64 (y1 : Int)) := by simp [go_sem]
      have b1 : (w.alloc (.cells #[.int .i64 (y1 : Int), .int .i64 (y2 : Int)] 58)).cell? ⟨w.heap.size, 1, none⟩ = some (.int .i64 (y2 : Int)) := by simp [go_sem]
      by_cases h0 : y1 = 0
      · obtain rfl := hno h0
        subst h0
        rw [show decide ((0 : Nat) ≠ 0) = false from rfl]
        have hq := ow_noN
        have k0 : w.cell? ⟨g, X * 2, none⟩ = some (.int .i64 0) := k0
        have k1 : w.cell? ⟨g, X * 2 + 1, none⟩ = some (.int .i64 0) := k1
        have HB : Hid (Below w.heap.size w (w.alloc (.cells #[.int .i64 0, .int .i64 0] 58))) := HB
        have b0 : (w.alloc (.cells #[.int .i64 0, .int .i64 0] 58)).cell? ⟨w.heap.size, 0, none⟩ = some (.int .i64 0) := b0
        have b1 : (w.alloc (.cells #[.int .i64 0, .int .i64 0] 58)).cell? ⟨w.heap.size, 1, none⟩ = some (.int .i64 0) := b1
        clear hno
        go_enter Try.func17, Try.ntmps17
        go_wp2_with (fail)
        refine HH.out.mono ?_
        rintro e w1 ⟨rfl, rfl⟩
        go_wp2_with (fail)
        generalize w.alloc (.cells #[.int .i64 0, .int .i64 0] 58) = w2 at *
        go_quiet (fail)
        go_wp2_with (fail)
        go_ret3
        exact ⟨rfl, below_drewN HB.out _⟩
      · rw [show decide (y1 ≠ 0) = true from decide_eq_true h0]
        have hq := fun W => ow_yesN (y := (y2 : Int)) h0 W
        clear hno
        go_enter Try.func17, Try.ntmps17
        go_wp2_with (fail)
        refine HH.out.mono ?_
        rintro e w1 ⟨rfl, rfl⟩
        go_wp2_with (fail)
        generalize w.alloc (.cells #[.int .i64 (y1 : Int), .int .i64 (y2 : Int)] 58) = w2 at *
        go_quiet (fail)
        go_wp2_with (fail)
        go_ret3
        exact ⟨rfl, below_drewN HB.out _⟩
  · rw [decide_eq_false hx] at HH
    rw [show rgO f N x = (0, 0) from if_neg hx]
    clear h I hx
    generalize (Option.map (fun d => (⟨d, 0, none⟩ : Addr)) d) = D at *
    go_enter Try.func17, Try.ntmps17
    go_wp2_with (fail)
    refine HH.out.mono ?_
    rintro e w1 ⟨rfl, rfl⟩
    go_wp2_with (fail)
    go_ret3
    exact ⟨rfl, Below.refl _ _⟩
/-- Whether a slot is taken. -/
def tkB (f : Nat → Ownr) (N : Nat) (x : Int) : Bool := decide ((rgO f N x).1 ≠ 0)
set_option maxRecDepth 100000 in
set_option maxHeartbeats 2000000 in
theorem taken_sk {d : Option Nat} (h : SkMay w d m N f) (I : SlI f N) (x : Int) : Calls Try.prog 26 #[.pointer (d.map fun d => ⟨d, 0, none⟩), .int .i64 x] w fun e w' =>
    e = .returned (.bool (tkB f N x)) ∧ Below w.heap.size w w' := by
  have HO := Lib.hid (owner_sk h I x)
  clear h I
  unfold tkB at *
  generalize (Option.map (fun d => (⟨d, 0, none⟩ : Addr)) d) = D at *
  generalize decide ((rgO f N x).1 ≠ 0) = B at *
  generalize (rgO f N x).1 = a1 at *
  generalize (rgO f N x).2 = a2 at *
  go_enter Try.func26, Try.ntmps26
  go_wp2_with (fail)
  refine HO.out.mono ?_
  rintro e w1 ⟨rfl, hb⟩
  have HB := Lib.hid hb
  clear hb
  go_wp2_with (fail)
  go_ret
  exact ⟨rfl, HB.out⟩
end
end Go.Proofs.Ytenfeamohcclaaa
