/-
  frames: Mark, SetMark.
-/
import Derived.Test.YtecklmiiiklagaaFrCount
namespace Go.Proofs.Ytecklmiiiklagaa
open Go.RowKit Go

/-- A mark may be. -/
def mkMay (x : Mk) : Bool := decide (1 ≤ x.r ∧ x.r ≤ 5) && (decide (0 ≤ x.o ∧ x.o ≤ 10) && (decide (0 ≤ x.w ∧ x.w ≤ 65535) && (decide (0 ≤ x.p ∧ x.p ≤ 65535) && decide (0 ≤ x.i))))
theorem markmay_any (x : Mk) (v : Bool) (hv : mkMay x = v) (w : World) :
    Calls Try.prog 26 #[.agg x.cells.toArray] w fun e w' => e = .returned (.bool v) ∧ Below w.heap.size w w' := by
  subst hv
  obtain ⟨r, o, ow, p, i⟩ := x
  show Calls Try.prog 26 #[.agg #[.int .u8 r, .int .i64 o, .int .i64 ow, .int .i64 p, .int .i64 i]] w _
  have HM := Lib.hid (show mkMay ⟨r, o, ow, p, i⟩ = (decide (1 ≤ r ∧ r ≤ 5) && (decide (0 ≤ o ∧ o ≤ 10) && (decide (0 ≤ ow ∧ ow ≤ 65535) && (decide (0 ≤ p ∧ p ≤ 65535) && decide (0 ≤ i))))) from rfl)
  have go : ∀ v, mkMay ⟨r, o, ow, p, i⟩ = v → Calls Try.prog 26 #[.agg #[.int .u8 r, .int .i64 o, .int .i64 ow, .int .i64 p, .int .i64 i]] w fun e w' => e = .returned (.bool v) ∧ Below w.heap.size w w' := by
    by_cases h0 : 1 ≤ r
    rotate_left
    · intro v hv
      obtain rfl : false = v := by rw [← hv, HM.out, decide_eq_false (by omega)]; rfl
      clear HM hv
      go_enter Try.func26, Try.ntmps26
      go_wp2_with (fail)
      go_ret
      exact ⟨rfl, (Below.refl _ _).alloc (Nat.le_refl _) _⟩
    by_cases h1 : r ≤ 5
    rotate_left
    · intro v hv
      obtain rfl : false = v := by rw [← hv, HM.out, decide_eq_false (by omega)]; rfl
      clear HM hv
      go_enter Try.func26, Try.ntmps26
      go_wp2_with (fail)
      go_ret
      exact ⟨rfl, (Below.refl _ _).alloc (Nat.le_refl _) _⟩
    intro v hv
    rw [HM.out, decide_eq_true (⟨h0, h1⟩ : 1 ≤ r ∧ r ≤ 5), Bool.true_and] at hv
    clear HM
    cases h2 : decide (0 ≤ o ∧ o ≤ 10)
    · rw [h2, Bool.false_and] at hv
      subst hv
      have H2 := Lib.hid h2
      clear h2
      go_enter Try.func26, Try.ntmps26
      go_wp2_with (go_at_call 33; refine (fwithin_any o 0 10 false H2.out _).mono ?_; rintro e w' ⟨rfl, rfl⟩)
      go_ret
      exact ⟨rfl, (Below.refl _ _).alloc (Nat.le_refl _) _⟩
    rw [h2, Bool.true_and] at hv
    have H2 := Lib.hid h2
    clear h2
    cases h3 : decide (0 ≤ ow ∧ ow ≤ 65535)
    · rw [h3, Bool.false_and] at hv
      subst hv
      have H3 := Lib.hid h3
      clear h3
      go_enter Try.func26, Try.ntmps26
      go_wp2_with (fail)
      refine (fwithin_any o 0 10 true H2.out _).mono ?_
      rintro e w' ⟨rfl, rfl⟩
      go_wp2_with (fail)
      refine (fwithin_any ow 0 65535 false H3.out _).mono ?_
      rintro e w' ⟨rfl, rfl⟩
      go_wp2_with (fail)
      go_ret
      exact ⟨rfl, (Below.refl _ _).alloc (Nat.le_refl _) _⟩
    rw [h3, Bool.true_and] at hv
    have H3 := Lib.hid h3
    clear h3
    cases h4 : decide (0 ≤ p ∧ p ≤ 65535)
    · rw [h4, Bool.false_and] at hv
      subst hv
      have H4 := Lib.hid h4
      clear h4
      go_enter Try.func26, Try.ntmps26
      go_wp2_with (fail)
      refine (fwithin_any o 0 10 true H2.out _).mono ?_
      rintro e w' ⟨rfl, rfl⟩
      go_wp2_with (fail)
      refine (fwithin_any ow 0 65535 true H3.out _).mono ?_
      rintro e w' ⟨rfl, rfl⟩
      go_wp2_with (fail)
      refine (fwithin_any p 0 65535 false H4.out _).mono ?_
      rintro e w' ⟨rfl, rfl⟩
      go_wp2_with (fail)
      go_ret
      exact ⟨rfl, (Below.refl _ _).alloc (Nat.le_refl _) _⟩
    rw [h4, Bool.true_and] at hv
    have H4 := Lib.hid h4
    clear h4
    have HV := Lib.hid hv
    clear hv
    go_enter Try.func26, Try.ntmps26
    go_wp2_with (fail)
    refine (fwithin_any o 0 10 true H2.out _).mono ?_
    rintro e w' ⟨rfl, rfl⟩
    go_wp2_with (fail)
    refine (fwithin_any ow 0 65535 true H3.out _).mono ?_
    rintro e w' ⟨rfl, rfl⟩
    go_wp2_with (fail)
    refine (fwithin_any p 0 65535 true H4.out _).mono ?_
    rintro e w' ⟨rfl, rfl⟩
    go_wp2_with (fail)
    go_ret
    exact ⟨by rw [← HV.out]; rfl, (Below.refl _ _).alloc (Nat.le_refl _) _⟩
  exact go _ rfl

theorem mark_err (p : Option Addr) (f v : Int) (w : World) (hv : v ≠ 0)
    (h : ∀ w', Below w.heap.size w w' → Calls Try.prog 24 #[.pointer p, .int .i64 f] w' fun e w'' => e = .returned (.int .i64 v) ∧ w' = w'') :
    Calls Try.prog 10 #[.pointer p, .int .i64 f] w fun e w' => e = .returned (.tuple #[.agg #[.int .u8 0, .int .i64 0, .int .i64 0, .int .i64 0, .int .i64 0], .int .i64 v]) ∧ Below w.heap.size w w' := by
  have hne : (v != 0) = true := by simpa using hv
  have HC := Lib.hid (h (w.alloc (.cells #[.int .u8 0, .int .i64 0, .int .i64 0, .int .i64 0, .int .i64 0] 25)) ((Below.refl _ w).alloc (Nat.le_refl _) _))
  clear h hv
  go_enter Try.func10, Try.ntmps10
  go_wp2_with (fail)
  refine HC.out.mono ?_
  rintro e w' ⟨rfl, rfl⟩
  go_wp2_with (fail)
  exact bodyPost_ret (v := .tuple #[.agg #[.int .u8 0, .int .i64 0, .int .i64 0, .int .i64 0, .int .i64 0], .int .i64 v]) (by simp [results, Try.results10, go_sem]) rfl ⟨rfl, (Below.refl _ _).alloc (Nat.le_refl _) _⟩

theorem mark_ok {w : World} {M : MB} {ST : Nat → Nat} {B : Nat → UInt8} {K : Nat → Mk} (H : MemAt w M ST B K) (f : Nat) (hf : f < M.T) :
    Calls Try.prog 10 #[.pointer (some ⟨M.m, 0, none⟩), .int .i64 f] w fun e w' => e = .returned (.tuple #[.agg (K f).cells.toArray, .int .i64 0]) ∧ Below w.heap.size w w' := by
  have H2 := H.later ((Below.refl _ w).alloc (Nat.le_refl _) (.cells #[.int .u8 0, .int .i64 0, .int .i64 0, .int .i64 0, .int .i64 0] 25))
  obtain ⟨k2, hk2, h2⟩ := H2.c2
  have hr := H2.range f hf
  have HC := Lib.hid (H2.asked_ok f hf)
  clear H H2
  generalize hx : K f = x at hr ⊢
  clear hx
  obtain ⟨r, o, ow, p, i⟩ := x
  unfold Mk.cells at hr ⊢
  dsimp only at hr ⊢
  go_enter Try.func10, Try.ntmps10
  go_wp2_with (fail)
  refine HC.out.mono ?_
  rintro e w' ⟨rfl, rfl⟩
  go_wp2_with (refine wpList_load_mid rfl 25 _ rfl M.kb (f * 5) rfl _ _ hr Try.underlying25 rfl sizeMark ?_)
  exact bodyPost_ret (v := .tuple #[.agg #[.int .u8 r, .int .i64 o, .int .i64 ow, .int .i64 p, .int .i64 i], .int .i64 0]) (by simp [results, Try.results10, go_sem]) rfl ⟨rfl, (Below.refl _ _).alloc (Nat.le_refl _) _⟩

theorem setmark_err (p : Option Addr) (f v : Int) (x : Mk) (w : World) (hv : v ≠ 0)
    (h : ∀ w', Below w.heap.size w w' → Calls Try.prog 24 #[.pointer p, .int .i64 f] w' fun e w'' => e = .returned (.int .i64 v) ∧ w' = w'') :
    Calls Try.prog 15 #[.pointer p, .int .i64 f, .agg x.cells.toArray] w fun e w' => e = .returned (.int .i64 v) ∧ Below w.heap.size w w' := by
  have hne : (v != 0) = true := by simpa using hv
  obtain ⟨r, o, ow, p', i⟩ := x
  show Calls Try.prog 15 #[.pointer p, .int .i64 f, .agg #[.int .u8 r, .int .i64 o, .int .i64 ow, .int .i64 p', .int .i64 i]] w _
  have HC := Lib.hid (h (w.alloc (.cells #[.int .u8 r, .int .i64 o, .int .i64 ow, .int .i64 p', .int .i64 i] 25)) ((Below.refl _ w).alloc (Nat.le_refl _) _))
  clear h hv
  go_enter Try.func15, Try.ntmps15
  go_wp2_with (fail)
  refine HC.out.mono ?_
  rintro e w' ⟨rfl, rfl⟩
  go_wp2_with (fail)
  go_ret
  exact ⟨rfl, (Below.refl _ _).alloc (Nat.le_refl _) _⟩
theorem setmark_bad {w : World} {M : MB} {ST : Nat → Nat} {B : Nat → UInt8} {K : Nat → Mk} (H : MemAt w M ST B K) (f : Nat) (hf : f < M.T) (x : Mk) (hx : mkMay x = false) :
    Calls Try.prog 15 #[.pointer (some ⟨M.m, 0, none⟩), .int .i64 f, .agg x.cells.toArray] w fun e w' => e = .returned (.int .i64 2) ∧ Below w.heap.size w w' := by
  have HM := Lib.hid (markmay_any x false hx)
  obtain ⟨r, o, ow, p, i⟩ := x
  have H2 := H.later ((Below.refl _ w).alloc (Nat.le_refl _) (.cells #[.int .u8 r, .int .i64 o, .int .i64 ow, .int .i64 p, .int .i64 i] 25))
  have HC := Lib.hid (H2.asked_ok f hf)
  show Calls Try.prog 15 #[.pointer (some ⟨M.m, 0, none⟩), .int .i64 f, .agg #[.int .u8 r, .int .i64 o, .int .i64 ow, .int .i64 p, .int .i64 i]] w _
  clear H H2 hf hx
  go_enter Try.func15, Try.ntmps15
  go_wp2_with (fail)
  refine HC.out.mono ?_
  rintro e w' ⟨rfl, rfl⟩
  go_wp2_with (fail)
  refine (HM.out _).mono ?_
  rintro e w1 ⟨rfl, hb⟩
  have HB := Lib.hid hb
  clear hb
  go_wp2_with (fail)
  go_ret
  exact ⟨rfl, ((Below.refl _ _).alloc (Nat.le_refl _) _).trans (HB.out.mono (by simp))⟩

/-- The f-th mark is x. -/
def updK (K : Nat → Mk) (f : Nat) (x : Mk) (i : Nat) : Mk := if i = f then x else K i
theorem updK_row (K : Nat → Mk) (f : Nat) (x : Mk) (i : Nat) : (if f * 5 ≤ i ∧ i < f * 5 + x.cells.length then x.cells.getD (i - f * 5) undef else mkV K i) = mkV (updK K f x) i := by
  unfold mkV updK
  have hl : x.cells.length = 5 := rfl
  rw [hl]
  by_cases h : f * 5 ≤ i ∧ i < f * 5 + 5
  · rw [if_pos h, if_pos (by omega)]
    have e : i % 5 = i - f * 5 := by omega
    rw [e]
    have : i - f * 5 = 0 ∨ i - f * 5 = 1 ∨ i - f * 5 = 2 ∨ i - f * 5 = 3 ∨ i - f * 5 = 4 := by omega
    rcases this with e | e | e | e | e <;> rw [e] <;> rfl
  · rw [if_neg h, if_neg (by omega)]

/-- What SetMark leaves. -/
def MarkedAt (w : World) (M : MB) (ST : Nat → Nat) (B : Nat → UInt8) (K : Nat → Mk) (e : Ending) (w' : World) : Prop :=
  e = .returned (.int .i64 0) ∧ MemAt w' M ST B K ∧ Only (Eq M.kb) w w'

theorem still_tail {P : Program} {id : Nat} {Q : Exit → Act → World → Prop} {a : Act} {w : World} {l : List Oper} (n : Nat) (hm : P.follows .mixedOrders = true) (hB : Region.lexTailB .any l.toArray n = true)
    (h : wpStill P l.toArray w.drew (fun a' => wpList P l.toArray Q (l.drop n) a' w.drew) (l.take n) a) : (Code.region id l.toArray true).wp P Q a w :=
  wp_region_still_tail n hm hB h

theorem mk_one (r o ow p i : Int) : (#[Value.int .u8 r, .int .i64 o, .int .i64 ow, .int .i64 p, .int .i64 i] : Array Value).all (·.oneCell') = true := by simp [Value.oneCell']
theorem setmark_ok {w : World} {M : MB} {ST : Nat → Nat} {B : Nat → UInt8} {K : Nat → Mk} (H : MemAt w M ST B K) (f : Nat) (hf : f < M.T) (x : Mk) (hx : mkMay x = true) :
    Calls Try.prog 15 #[.pointer (some ⟨M.m, 0, none⟩), .int .i64 f, .agg x.cells.toArray] w (MarkedAt w M ST B (updK K f x)) := by
  have HM := Lib.hid (markmay_any x true hx)
  have HU := Lib.hid (updK_row K f x)
  obtain ⟨r, o, ow, p, i⟩ := x
  have H2 := H.later ((Below.refl _ w).alloc (Nat.le_refl _) (.cells #[.int .u8 r, .int .i64 o, .int .i64 ow, .int .i64 p, .int .i64 i] 25))
  have HC := Lib.hid (H2.asked_ok f hf)
  have HH2 := Lib.hid H2
  have hl : M.kb < w.heap.size := H.marks.lt
  show Calls Try.prog 15 #[.pointer (some ⟨M.m, 0, none⟩), .int .i64 f, .agg #[.int .u8 r, .int .i64 o, .int .i64 ow, .int .i64 p, .int .i64 i]] w _
  clear H H2 hx
  go_enter Try.func15, Try.ntmps15
  go_wp2_with (fail)
  refine HC.out.mono ?_
  rintro e w' ⟨rfl, rfl⟩
  go_wp2_with (fail)
  refine (HM.out _).mono ?_
  rintro e w1 ⟨rfl, hb⟩
  have H3 := HH2.out.later hb
  obtain ⟨k2, hk2, h2⟩ := H3.c2
  have hbx : w1.heap[w.heap.size]? = some (.cells #[.int .u8 r, .int .i64 o, .int .i64 ow, .int .i64 p, .int .i64 i] 25 (0, 0)) := by
    rw [hb.block _ (by simp)]; exact heap_alloc_new w _
  have x0 : w1.cell? ⟨w.heap.size, 0, none⟩ = some (.int .u8 r) := by rw [cell_of_row w1 _ _ _ _ _ hbx]; rfl
  have x1 : w1.cell? ⟨w.heap.size, 1, none⟩ = some (.int .i64 o) := by rw [cell_of_row w1 _ _ _ _ _ hbx]; rfl
  have x2 : w1.cell? ⟨w.heap.size, 2, none⟩ = some (.int .i64 ow) := by rw [cell_of_row w1 _ _ _ _ _ hbx]; rfl
  have x3 : w1.cell? ⟨w.heap.size, 3, none⟩ = some (.int .i64 p) := by rw [cell_of_row w1 _ _ _ _ _ hbx]; rfl
  have x4 : w1.cell? ⟨w.heap.size, 4, none⟩ = some (.int .i64 i) := by rw [cell_of_row w1 _ _ _ _ _ hbx]; rfl
  have H4 := HH2.out.later hb.drew
  have hth := H4.marks.there (f * 5) 5 (by omega)
  have hS := (Only.setCells (S := Eq M.kb) rfl [.int .u8 r, .int .i64 o, .int .i64 ow, .int .i64 p, .int .i64 i] (f * 5) w1.drew)
  have HS := Lib.hid (H4.marked hS ((H4.marks.setCells [.int .u8 r, .int .i64 o, .int .i64 ow, .int .i64 p, .int .i64 i] (f * 5)).ext (fun j _ => HU.out j)))
  have HO := Lib.hid (((Only.alloc (Eq M.kb) w _).trans (Only.of_below hb.drew)).trans hS)
  have gf : (f : Int) < (M.T : Int) := by omega
  clear hb H3 hbx H4 hS
  go_wp2_with (fail)
  refine still_tail 7 (by kernel_rfl) (by kernel_rfl) ?_
  simp only [List.take_succ_cons, List.take_zero, List.drop_succ_cons, List.drop_zero]
  repeat still_step
  refine wpStill_nil ?_
  clear hk2 h2 x0 x1 x2 x3 x4 gf hl
  refine wpList_store_mid rfl 25 _ _ rfl M.kb (f * 5) _ rfl rfl hth sizeMark (mk_one r o ow p i) ?_
  go_wp2
  go_ret
  exact ⟨rfl, HS.out, HO.out⟩
end Go.Proofs.Ytecklmiiiklagaa
