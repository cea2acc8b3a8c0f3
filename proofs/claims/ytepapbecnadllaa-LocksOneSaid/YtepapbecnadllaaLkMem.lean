/-
  locks: a table as it lies; missing, has, asked, Locks, Holder; slices.Contains; Try, Free.
-/
import Derived.Test.YtepapbecnadllaaRow
import Derived.Test.YtepapbecnadllaaLexH
import Derived.Laws.AppendOwn
namespace Go.Proofs.Ytepapbecnadllaa
open Go.RowKit Go

/-- The cells of a table: n locks, held by H. -/
def tbV (n : Nat) (H : Nat → Int) (i : Nat) : Value := if i = 0 then .bool true else if i = 1 then .int .i64 n else .int .i64 (H (i - 2))
theorem tbV_lock (n : Nat) (H : Nat → Int) (l : Nat) : tbV n H (2 + l) = .int .i64 (H l) := by
  unfold tbV; rw [if_neg (by omega), if_neg (by omega), Nat.add_sub_cancel_left]
/-- A table lies at d: n locks, held by H. -/
structure LkAt (w : World) (d n : Nat) (H : Nat → Int) : Prop where
  row : RowAt w d 66 (tbV n H)
  n1 : n ≤ 64
  free : ∀ i, n ≤ i → H i = -1
  low : ∀ i, -1 ≤ H i
theorem LkAt.later {w w' : World} {d n : Nat} {H : Nat → Int} (L : LkAt w d n H) (h : Below w.heap.size w w') : LkAt w' d n H := ⟨L.row.later h, L.n1, L.free, L.low⟩
theorem LkAt.only {S : Nat → Prop} {w w' : World} {d n : Nat} {H : Nat → Int} (L : LkAt w d n H) (h : Only S w w') (hs : ¬ S d) : LkAt w' d n H := ⟨L.row.only h hs, L.n1, L.free, L.low⟩
theorem LkAt.lt {w : World} {d n : Nat} {H : Nat → Int} (L : LkAt w d n H) : d < w.heap.size := L.row.lt
theorem LkAt.c0 {w : World} {d n : Nat} {H : Nat → Int} (L : LkAt w d n H) : w.cell? ⟨d, 0, none⟩ = some (.bool true) := L.row.cell 0 (by decide)
theorem LkAt.c1 {w : World} {d n : Nat} {H : Nat → Int} (L : LkAt w d n H) : w.cell? ⟨d, 1, none⟩ = some (.int .i64 n) := L.row.cell 1 (by decide)
theorem LkAt.at {w : World} {d n : Nat} {H : Nat → Int} (L : LkAt w d n H) (l : Nat) (hl : l < 64) : w.cell? ⟨d, 2 + l, none⟩ = some (.int .i64 (H l)) := by
  rw [L.row.cell (2 + l) (by omega), tbV_lock]

/-- One that is not there, or was not made. -/
def LGone (w : World) (p : Option Addr) : Prop := p = none ∨ ∃ d, p = some ⟨d, 0, none⟩ ∧ w.cell? ⟨d, 0, none⟩ = some (.bool false) ∧ w.cell? ⟨d, 1, none⟩ = some (.int .i64 0) ∧ RowAt w d 66 (fun i => if i = 0 then .bool false else .int .i64 0)
theorem LGone.later {w w' : World} {p : Option Addr} (h : LGone w p) (hb : Below w.heap.size w w') : LGone w' p := by
  rcases h with rfl | ⟨m, rfl, h0, h1, R⟩
  · exact .inl rfl
  · have hlt := World.block_lt_of_cell? _ _ h0
    exact .inr ⟨m, rfl, by rw [hb.cell (p := ⟨m, 0, none⟩) hlt]; exact h0, by rw [hb.cell (p := ⟨m, 1, none⟩) hlt]; exact h1, R.later hb⟩

theorem missing_gone (p : Option Addr) (w : World) (h : LGone w p) : Calls Try.prog 25 #[.pointer p] w fun e w' => e = .returned (.bool true) ∧ w = w' := by
  rcases h with rfl | ⟨d, rfl, h0, h1, _⟩
  all_goals
    go_enter Try.func25, Try.ntmps25
    go_wp2
    go_ret
    exact ⟨rfl, rfl⟩
theorem missing_at {w : World} {d n : Nat} {H : Nat → Int} (L : LkAt w d n H) : Calls Try.prog 25 #[.pointer (some ⟨d, 0, none⟩)] w fun e w' => e = .returned (.bool false) ∧ w = w' := by
  have h0 := L.c0
  clear L
  go_enter Try.func25, Try.ntmps25
  go_wp2
  go_ret
  exact ⟨rfl, rfl⟩
theorem locks_gone (p : Option Addr) (w : World) (h : LGone w p) : Calls Try.prog 12 #[.pointer p] w fun e w' => e = .returned (.int .i64 0) ∧ w = w' := by
  rcases h with rfl | ⟨d, rfl, h0, h1, _⟩
  all_goals
    go_enter Try.func12, Try.ntmps12
    go_wp2
    go_ret
    exact ⟨rfl, rfl⟩
theorem locks_at {w : World} {d n : Nat} {H : Nat → Int} (L : LkAt w d n H) : Calls Try.prog 12 #[.pointer (some ⟨d, 0, none⟩)] w fun e w' => e = .returned (.int .i64 n) ∧ w = w' := by
  have h1 := L.c1
  clear L
  go_enter Try.func12, Try.ntmps12
  go_wp2
  go_ret
  exact ⟨rfl, rfl⟩
theorem has_gone (p : Option Addr) (l : Int) (w : World) (h : LGone w p) : Calls Try.prog 26 #[.pointer p, .int .i64 l] w fun e w' => e = .returned (.bool false) ∧ w = w' := by
  rcases h with rfl | ⟨d, rfl, h0, h1, _⟩
  · go_enter Try.func26, Try.ntmps26
    go_wp2
    go_ret
    exact ⟨rfl, rfl⟩
  · by_cases hl : 0 ≤ l
    · go_enter Try.func26, Try.ntmps26
      go_wp2
      go_ret
      exact ⟨congrArg (fun b => Ending.returned (.bool b)) (decide_eq_false (by omega)), rfl⟩
    · go_enter Try.func26, Try.ntmps26
      go_wp2
      go_ret
      exact ⟨rfl, rfl⟩
/-- There is such a lock. -/
def hasB (n : Nat) (l : Int) : Bool := decide (0 ≤ l ∧ l < n)
theorem has_at {w : World} {d n : Nat} {H : Nat → Int} (L : LkAt w d n H) (l : Int) : Calls Try.prog 26 #[.pointer (some ⟨d, 0, none⟩), .int .i64 l] w fun e w' => e = .returned (.bool (hasB n l)) ∧ w = w' := by
  have h1 := L.c1
  clear L
  have hcs : (l < 0 ∧ hasB n l = false) ∨ (0 ≤ l ∧ (n : Int) ≤ l ∧ hasB n l = false) ∨ (0 ≤ l ∧ l < n ∧ hasB n l = true) := by
    unfold hasB
    simp only [decide_eq_true_eq, decide_eq_false_iff_not]
    omega
  rcases hcs with ⟨a1, e⟩ | ⟨a1, a2, e⟩ | ⟨a1, a2, e⟩
  · rw [e]
    go_enter Try.func26, Try.ntmps26
    go_wp2
    go_ret
    exact ⟨rfl, rfl⟩
  · rw [e]
    go_enter Try.func26, Try.ntmps26
    go_wp2
    go_ret
    exact ⟨congrArg (fun b => Ending.returned (.bool b)) (decide_eq_false (by omega)), rfl⟩
  · rw [e]
    go_enter Try.func26, Try.ntmps26
    go_wp2
    go_ret
    exact ⟨rfl, rfl⟩
theorem asked_gone (p : Option Addr) (who l : Int) (w : World) (h : LGone w p) : Calls Try.prog 23 #[.pointer p, .int .i64 who, .int .i64 l] w fun e w' => e = .returned (.int .i64 1) ∧ w = w' := by
  have HG := Lib.hid h
  clear h
  go_enter Try.func23, Try.ntmps23
  go_wp2_with (fail)
  refine (missing_gone p w HG.out).mono ?_
  rintro e w' ⟨rfl, rfl⟩
  go_wp2_with (fail)
  go_ret
  exact ⟨rfl, rfl⟩
/-- Who may ask for a lock. -/
def askB (n : Nat) (who l : Int) : Bool := decide (0 ≤ who) && hasB n l
def askE (n : Nat) (who l : Int) : Int := if askB n who l = true then 0 else 2
theorem asked_at {w : World} {d n : Nat} {H : Nat → Int} (L : LkAt w d n H) (who l : Int) : Calls Try.prog 23 #[.pointer (some ⟨d, 0, none⟩), .int .i64 who, .int .i64 l] w fun e w' => e = .returned (.int .i64 (askE n who l)) ∧ w = w' := by
  have HL := Lib.hid L
  clear L
  have hcs : (who < 0 ∧ askE n who l = 2) ∨ (0 ≤ who ∧ hasB n l = false ∧ askE n who l = 2) ∨ (0 ≤ who ∧ hasB n l = true ∧ askE n who l = 0) := by
    unfold askE askB
    by_cases h : 0 ≤ who
    · cases hasB n l
      · exact .inr (.inl ⟨h, rfl, by simp⟩)
      · exact .inr (.inr ⟨h, rfl, by simp [h]⟩)
    · exact .inl ⟨by omega, by simp [h]⟩
  rcases hcs with ⟨a1, e⟩ | ⟨a1, a2, e⟩ | ⟨a1, a2, e⟩
  · rw [e]
    go_enter Try.func23, Try.ntmps23
    go_wp2_with (fail)
    refine (missing_at HL.out).mono ?_
    rintro e w' ⟨rfl, rfl⟩
    go_wp2_with (fail)
    go_ret
    exact ⟨rfl, rfl⟩
  all_goals
    rw [e]
    go_enter Try.func23, Try.ntmps23
    go_wp2_with (fail)
    refine (missing_at HL.out).mono ?_
    rintro e w' ⟨rfl, rfl⟩
    go_wp2_with (fail)
    refine (has_at HL.out l).mono ?_
    rintro e w' ⟨rfl, rfl⟩
    rw [a2]
    go_wp2_with (fail)
    go_ret
    exact ⟨rfl, rfl⟩

/-- Who holds a lock. -/
def holdV (n : Nat) (H : Nat → Int) (l : Int) : Int := if hasB n l = true then H l.toNat else -1
theorem holder_gone (p : Option Addr) (l : Int) (w : World) (h : LGone w p) : Calls Try.prog 18 #[.pointer p, .int .i64 l] w fun e w' => e = .returned (.int .i64 (-1)) ∧ w = w' := by
  have HG := Lib.hid h
  clear h
  go_enter Try.func18, Try.ntmps18
  go_wp2_with (fail)
  refine (has_gone p l w HG.out).mono ?_
  rintro e w' ⟨rfl, rfl⟩
  go_wp2_with (fail)
  go_ret
  exact ⟨rfl, rfl⟩
theorem hasB_nat {n : Nat} {l : Int} (h : hasB n l = true) : ∃ k : Nat, l = k ∧ k < n := by
  simp only [hasB, decide_eq_true_eq] at h
  exact ⟨l.toNat, by omega, by omega⟩
theorem holder_at {w : World} {d n : Nat} {H : Nat → Int} (L : LkAt w d n H) (l : Int) : Calls Try.prog 18 #[.pointer (some ⟨d, 0, none⟩), .int .i64 l] w fun e w' => e = .returned (.int .i64 (holdV n H l)) ∧ w = w' := by
  have HL := Lib.hid L
  clear L
  by_cases hb : hasB n l = true
  · have e : holdV n H l = H l.toNat := if_pos hb
    obtain ⟨k, rfl, hk⟩ := hasB_nat hb
    have HC := Lib.hid (HL.out.at k (by have := HL.out.n1; omega))
    have h64 : k < 64 := by have := HL.out.n1; omega
    rw [e]
    clear e
    go_enter Try.func18, Try.ntmps18
    go_wp2_with (fail)
    refine (has_at HL.out k).mono ?_
    rintro e w' ⟨rfl, rfl⟩
    rw [hb]
    have hc := HC.out
    clear HL hb
    go_wp2_with (fail)
    go_ret
    exact ⟨rfl, rfl⟩
  · have e : holdV n H l = -1 := if_neg hb
    have hb' : hasB n l = false := by simpa using hb
    rw [e]
    clear hb e
    go_enter Try.func18, Try.ntmps18
    go_wp2_with (fail)
    refine (has_at HL.out l).mono ?_
    rintro e w' ⟨rfl, rfl⟩
    rw [hb']
    go_wp2_with (fail)
    go_ret
    exact ⟨rfl, rfl⟩

/-- One of the first m is x. -/
def hasI (g : Nat → Int) (m : Nat) (x : Int) : Bool := (List.range m).any fun i => g i == x
theorem hasI_true {g : Nat → Int} {m : Nat} {x : Int} (k : Nat) (hk : k < m) (h : g k = x) : hasI g m x = true := by
  simp only [hasI, List.any_eq_true, List.mem_range, beq_iff_eq]
  exact ⟨k, hk, h⟩
theorem hasI_false {g : Nat → Int} {m : Nat} {x : Int} (h : ∀ i, i < m → g i ≠ x) : hasI g m x = false := by
  simp only [hasI, List.any_eq_false, List.mem_range, beq_iff_eq]
  exact h
/-- What Index leaves. -/
def IdxAt (w : World) (v : Bool) (e : Ending) (w' : World) : Prop := ∃ r : Int, e = .returned (.int .i64 r) ∧ decide (r ≥ 0) = v ∧ w = w'
theorem index_any {w : World} {b o m c : Nat} {g : Nat → Int} (hm : m ≤ 64) (hc : ∀ j, j < m → w.cell? ⟨b, o + j, none⟩ = some (.int .i64 (g j))) (x : Int) :
    Calls Try.prog 27 #[.slice (some ⟨b, o, none⟩) m c, .int .i64 x] w (IdxAt w (hasI g m x)) := by
  have HC := Lib.hid hc
  clear hc
  go_enter Try.func27, Try.ntmps27
  go_wp2_with (fail)
  go_loop [8] (fun i => ∃ k : Nat, k ≤ m ∧ i = .int .i64 k ∧ ∀ j, j < k → g j ≠ x) (fun i => m - (intOf i).toNat)
  case atStart => exact ⟨0, Nat.zero_le _, rfl, fun j h => absurd h (Nat.not_lt_zero _)⟩
  case round =>
    obtain ⟨k, hk, rfl, hn⟩ := hrel
    have HN := Lib.hid hn
    clear hn
    by_cases hlt : k < m
    · have c := HC.out k hlt
      by_cases hx : g k = x
      · have HT := Lib.hid (hasI_true k hlt hx)
        have ex : (x == g k) = true := by simp [hx]
        clear hx
        go_wp2_with (fail)
        go_ret
        exact ⟨k, rfl, by rw [HT.out]; simp, rfl⟩
      · have ex : (x == g k) = false := by simp; exact fun e => hx e.symm
        have HM := Lib.hid (show ∀ j, j < k + 1 → g j ≠ x from fun j hj => by
          by_cases h : j < k
          · exact HN.out j h
          · obtain rfl : j = k := by omega
            exact hx)
        clear hx
        go_wp2_with (fail)
        go_round
        case rel => exact ⟨k + 1, hlt, by go_num, HM.out⟩
        case measure => simp [intOf]; omega
    · obtain rfl : k = m := by omega
      go_wp2_with (fail)
      go_ret
      exact ⟨-1, rfl, by rw [hasI_false HN.out]; decide, rfl⟩
theorem contains_any {w : World} {b o m c : Nat} {g : Nat → Int} (hm : m ≤ 64) (hc : ∀ j, j < m → w.cell? ⟨b, o + j, none⟩ = some (.int .i64 (g j))) (x : Int) :
    Calls Try.prog 24 #[.slice (some ⟨b, o, none⟩) m c, .int .i64 x] w fun e w' => e = .returned (.bool (hasI g m x)) ∧ w = w' := by
  have HC := Lib.hid hc
  clear hc
  go_enter Try.func24, Try.ntmps24
  go_wp2_with (fail)
  refine (index_any hm HC.out x).mono ?_
  rintro e w' ⟨r, rfl, hr, rfl⟩
  have HR := Lib.hid hr
  clear hr
  go_wp2_with (fail)
  go_ret
  rw [← HR.out]
  exact ⟨rfl, rfl⟩

def updH (H : Nat → Int) (l : Nat) (v : Int) (i : Nat) : Int := if i = l then v else H i
theorem LkAt.set {w : World} {d n : Nat} {H : Nat → Int} (L : LkAt w d n H) (l : Nat) (v : Int) (hl : l < n) (hv : -1 ≤ v) : LkAt (w.setCell ⟨d, 2 + l, none⟩ (.int .i64 v)) d n (updH H l v) := by
  refine ⟨(L.row.setCell (2 + l) (.int .i64 v)).ext (fun i _ => ?_), L.n1, fun i hi => ?_, fun i => ?_⟩
  · unfold updV tbV updH
    by_cases h : i = 2 + l
    · subst h
      rw [if_pos rfl, if_neg (by omega), if_neg (by omega), if_pos (by omega)]
    · rw [if_neg h]
      by_cases h0 : i = 0
      · rw [if_pos h0, if_pos h0]
      · by_cases h1 : i = 1
        · rw [if_neg h0, if_neg h0, if_pos h1, if_pos h1]
        · rw [if_neg h0, if_neg h0, if_neg h1, if_neg h1, if_neg (by omega)]
  · unfold updH
    rw [if_neg (by omega)]; exact L.free i hi
  · unfold updH
    split
    · exact hv
    · exact L.low i

/-- Who holds a lock of number l or a greater one. -/
def fromB (H : Nat → Int) (l : Nat) (who : Int) : Bool := hasI (fun j => H (l + j)) (64 - l) who
/-- What Try answers, and what it leaves. -/
def tryE (n : Nat) (H : Nat → Int) (who l : Int) : Int := if askB n who l = true then (if fromB H l.toNat who = true then 50 else 0) else 2
def tryB (n : Nat) (H : Nat → Int) (who l : Int) : Bool := askB n who l && (!fromB H l.toNat who && (H l.toNat == -1))
def tryH (n : Nat) (H : Nat → Int) (who l : Int) : Nat → Int := if tryB n H who l = true then updH H l.toNat who else H
def freeE (n : Nat) (H : Nat → Int) (who l : Int) : Int := if askB n who l = true then (if H l.toNat = who then 0 else 7) else 2
def freeH (n : Nat) (H : Nat → Int) (who l : Int) : Nat → Int := if freeE n H who l = 0 then updH H l.toNat (-1) else H
theorem askB_nat {n : Nat} {who l : Int} (h : askB n who l = true) : ∃ k : Nat, l = k ∧ k < n ∧ 0 ≤ who := by
  simp only [askB, Bool.and_eq_true, decide_eq_true_eq] at h
  obtain ⟨k, e, hk⟩ := hasB_nat h.2
  exact ⟨k, e, hk, h.1⟩

def TryAt (w : World) (d n : Nat) (H : Nat → Int) (who l : Int) (e : Ending) (w' : World) : Prop :=
  e = .returned (.tuple #[.bool (tryB n H who l), .int .i64 (tryE n H who l)]) ∧ LkAt w' d n (tryH n H who l) ∧ Only (Eq d) w w'
def FreeAt (w : World) (d n : Nat) (H : Nat → Int) (who l : Int) (e : Ending) (w' : World) : Prop :=
  e = .returned (.int .i64 (freeE n H who l)) ∧ LkAt w' d n (freeH n H who l) ∧ Only (Eq d) w w'
theorem TryAt.same {w : World} {d n : Nat} {H : Nat → Int} {who l : Int} (L : LkAt w d n H) (hb : tryB n H who l = false) (v : Int) (he : tryE n H who l = v) : TryAt w d n H who l (.returned (.tuple #[.bool false, .int .i64 v])) w := by
  unfold TryAt tryH
  rw [hb, he, if_neg (by decide)]
  exact ⟨rfl, L, Only.refl _ _⟩

theorem try_gone (p : Option Addr) (who l : Int) (w : World) (h : LGone w p) : Calls Try.prog 13 #[.pointer p, .int .i64 who, .int .i64 l] w fun e w' => e = .returned (.tuple #[.bool false, .int .i64 1]) ∧ w = w' := by
  have HG := Lib.hid h
  clear h
  go_enter Try.func13, Try.ntmps13
  go_wp2_with (fail)
  refine (asked_gone p who l w HG.out).mono ?_
  rintro e w' ⟨rfl, rfl⟩
  go_wp2_with (fail)
  go_ret2
  exact ⟨rfl, rfl⟩
theorem free_gone (p : Option Addr) (who l : Int) (w : World) (h : LGone w p) : Calls Try.prog 15 #[.pointer p, .int .i64 who, .int .i64 l] w fun e w' => e = .returned (.int .i64 1) ∧ w = w' := by
  have HG := Lib.hid h
  clear h
  go_enter Try.func15, Try.ntmps15
  go_wp2_with (fail)
  refine (asked_gone p who l w HG.out).mono ?_
  rintro e w' ⟨rfl, rfl⟩
  go_wp2_with (fail)
  go_ret
  exact ⟨rfl, rfl⟩

theorem sizeInt (w : World) : (sizeOf 3).run Try.prog w = .ok 1 w := by kernel_rfl
theorem slice_from (d l : Nat) (hl : l < 64) (W : World) : (Instr.sliceAt 44 (.pointer (some ⟨d, 2, none⟩)) (some (.int .i64 l)) none none).run Try.prog W = .ok (.slice (some ⟨d, 2 + l, none⟩) (64 - l) (64 - l)) W := by
  have h := run_slice_from (P := Try.prog) Try.underlying44 sizeInt l (by omega) W d 2
  unfold fromV at h
  rw [if_neg (by omega), Nat.mul_one] at h
  exact h

theorem try_at {w : World} {d n : Nat} {H : Nat → Int} (L : LkAt w d n H) (who l : Int) : Calls Try.prog 13 #[.pointer (some ⟨d, 0, none⟩), .int .i64 who, .int .i64 l] w (TryAt w d n H who l) := by
  have HL := Lib.hid L
  by_cases ha : askB n who l = true
  · obtain ⟨k, rfl, hk, hw⟩ := askB_nat ha
    have h64 : k < 64 := by have := L.n1; omega
    have ea : askE n who k = 0 := if_pos ha
    have HS := Lib.hid (slice_from d k h64)
    have HI := Lib.hid (show ∀ W, LkAt W d n H → Calls Try.prog 24 #[.slice (some ⟨d, 2 + k, none⟩) (64 - k) (64 - k), .int .i64 who] W (fun e w' => e = .returned (.bool (fromB H k who)) ∧ W = w') from
      fun W LW => contains_any (g := fun j => H (k + j)) (by omega) (fun j hj => by rw [Nat.add_assoc]; exact LW.at (k + j) (by omega)) who)
    have et : tryB n H who k = (!fromB H k who && (H k == -1)) := by unfold tryB; rw [ha]; rfl
    have ee : tryE n H who k = if fromB H k who = true then 50 else 0 := if_pos ha
    have HC := L.at k h64
    have hfz : w.frozen? ⟨d, 2 + k, none⟩ = false := L.row.frozen (2 + k)
    have HN := Lib.hid (show tryB n H who k = true → TryAt w d n H who k (.returned (.tuple #[.bool true, .int .i64 0])) (w.setCell ⟨d, 2 + k, none⟩ (.int .i64 who)) from fun h => by
      have hf : fromB H k who = false := by
        rw [et] at h
        cases hq : fromB H k who
        · rfl
        · rw [hq] at h; cases h
      unfold TryAt tryH
      rw [h, ee, hf, if_neg (by decide), if_pos rfl]
      exact ⟨rfl, L.set k who hk (by omega), Only.setCell w ⟨d, 2 + k, none⟩ rfl _⟩)
    clear L ha
    cases hf : fromB H k who with
    | true =>
      have HT := Lib.hid (TryAt.same HL.out (show tryB n H who k = false by rw [et, hf]; rfl) 50 (by rw [ee, hf]; rfl))
      clear et ee HN HC hfz
      go_enter Try.func13, Try.ntmps13
      go_wp2_with (fail)
      refine (asked_at HL.out who k).mono ?_
      rintro e w' ⟨rfl, rfl⟩
      rw [ea]
      have hs := HS.out
      go_wp2_with (fail)
      refine (HI.out w HL.out).mono ?_
      rintro e w' ⟨rfl, rfl⟩
      rw [hf]
      go_wp2_with (fail)
      go_ret2
      exact HT.out
    | false =>
      by_cases hh : H k = -1
      · have HT := Lib.hid (HN.out (by rw [et, hf, hh]; rfl))
        have e1 : (H k != -1) = false := by simp [hh]
        clear et ee HN
        go_enter Try.func13, Try.ntmps13
        go_wp2_with (fail)
        refine (asked_at HL.out who k).mono ?_
        rintro e w' ⟨rfl, rfl⟩
        rw [ea]
        have hs := HS.out
        go_wp2_with (fail)
        refine (HI.out w HL.out).mono ?_
        rintro e w' ⟨rfl, rfl⟩
        rw [hf]
        clear hh HI HL ea hf hs HS
        go_wp2_with (fail)
        go_ret2
        exact HT.out
      · have HT := Lib.hid (TryAt.same HL.out (show tryB n H who k = false by rw [et, hf]; simpa using hh) 0 (by rw [ee, hf]; rfl))
        have e1 : (H k != -1) = true := by simpa using hh
        clear et ee HN hh hfz
        go_enter Try.func13, Try.ntmps13
        go_wp2_with (fail)
        refine (asked_at HL.out who k).mono ?_
        rintro e w' ⟨rfl, rfl⟩
        rw [ea]
        have hs := HS.out
        go_wp2_with (fail)
        refine (HI.out w HL.out).mono ?_
        rintro e w' ⟨rfl, rfl⟩
        rw [hf]
        clear HI HL ea hf hs HS
        go_wp2_with (fail)
        go_ret2
        exact HT.out
  · have ea : askE n who l = 2 := if_neg ha
    have HT := Lib.hid (TryAt.same L (show tryB n H who l = false by unfold tryB; simp at ha; rw [ha]; rfl) 2 (if_neg ha))
    clear L ha
    go_enter Try.func13, Try.ntmps13
    go_wp2_with (fail)
    refine (asked_at HL.out who l).mono ?_
    rintro e w' ⟨rfl, rfl⟩
    rw [ea]
    go_wp2_with (fail)
    go_ret2
    exact HT.out

theorem FreeAt.same {w : World} {d n : Nat} {H : Nat → Int} {who l : Int} (L : LkAt w d n H) (v : Int) (he : freeE n H who l = v) (hv : v ≠ 0) : FreeAt w d n H who l (.returned (.int .i64 v)) w := by
  unfold FreeAt freeH
  rw [he, if_neg hv]
  exact ⟨rfl, L, Only.refl _ _⟩
theorem free_at {w : World} {d n : Nat} {H : Nat → Int} (L : LkAt w d n H) (who l : Int) : Calls Try.prog 15 #[.pointer (some ⟨d, 0, none⟩), .int .i64 who, .int .i64 l] w (FreeAt w d n H who l) := by
  have HL := Lib.hid L
  by_cases ha : askB n who l = true
  · obtain ⟨k, rfl, hk, hw⟩ := askB_nat ha
    have h64 : k < 64 := by have := L.n1; omega
    have ea : askE n who k = 0 := if_pos ha
    have ee : freeE n H who k = if H k = who then 0 else 7 := if_pos ha
    have HC := L.at k h64
    by_cases hh : H k = who
    · have hfz : w.frozen? ⟨d, 2 + k, none⟩ = false := L.row.frozen (2 + k)
      have HT := Lib.hid (show FreeAt w d n H who k (.returned (.int .i64 0)) (w.setCell ⟨d, 2 + k, none⟩ (.int .i64 (-1))) from by
        unfold FreeAt freeH
        rw [ee, if_pos hh, if_pos rfl]
        exact ⟨rfl, L.set k (-1) hk (by omega), Only.setCell w ⟨d, 2 + k, none⟩ rfl _⟩)
      have e1 : (H k != who) = false := by simp [hh]
      clear ee L ha hh
      go_enter Try.func15, Try.ntmps15
      go_wp2_with (fail)
      refine (asked_at HL.out who k).mono ?_
      rintro e w' ⟨rfl, rfl⟩
      rw [ea]
      go_wp2_with (fail)
      go_ret
      exact HT.out
    · have HT := Lib.hid (FreeAt.same (who := who) (l := k) L 7 (by rw [ee, if_neg hh]) (by decide))
      have e1 : (H k != who) = true := by simpa using hh
      clear ee L ha hh
      go_enter Try.func15, Try.ntmps15
      go_wp2_with (fail)
      refine (asked_at HL.out who k).mono ?_
      rintro e w' ⟨rfl, rfl⟩
      rw [ea]
      go_wp2_with (fail)
      go_ret
      exact HT.out
  · have ea : askE n who l = 2 := if_neg ha
    have HT := Lib.hid (FreeAt.same (who := who) (l := l) L 2 (if_neg ha) (by decide))
    clear L ha
    go_enter Try.func15, Try.ntmps15
    go_wp2_with (fail)
    refine (asked_at HL.out who l).mono ?_
    rintro e w' ⟨rfl, rfl⟩
    rw [ea]
    go_wp2_with (fail)
    go_ret
    exact HT.out
end Go.Proofs.Ytepapbecnadllaa
