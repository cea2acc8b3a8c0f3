/-
  chain's document: a slab as it lies; May, At, Live, Mark, Clear.
-/
import Derived.Test.YtlimbcpghfddkaaChPure
import Derived.Test.YtlimbcpghfddkaaOwn
import Derived.Test.YtlimbcpghfddkaaKept
import Derived.Test.YtlimbcpghfddkaaLexH
namespace Go.Proofs.Ytlimbcpghfddkaa
open Go.RowKit Go

/-- A chain as it lies: in neither of two blocks. -/
def ChIn (w : World) (r bb : Nat) (v : Value) (l : List Nat) : Prop :=
  ∃ a c, v = .slice a l.length c ∧ l.length ≤ c ∧ ∀ j, j < l.length → ∃ b o, a = some ⟨b, o, none⟩ ∧ r < b ∧ b ≠ bb ∧ w.cell? ⟨b, o + j, none⟩ = some (.int .i64 (l.getD j 0))
theorem ChIn.only {P : Nat → Prop} {w w' : World} {r bb : Nat} {v : Value} {l : List Nat} (h : ChIn w r bb v l) (ho : Only P w w') (hP : ∀ k, P k → k = r ∨ k = bb) : ChIn w' r bb v l := by
  obtain ⟨a, c, e, hle, hh⟩ := h
  refine ⟨a, c, e, hle, fun j hj => ?_⟩
  obtain ⟨b, o, e2, h1, h2, hc⟩ := hh j hj
  exact ⟨b, o, e2, h1, h2, ho.cell (fun hp => by rcases hP b hp with h | h; omega; exact h2 h) hc⟩
theorem ChIn.later {w w' : World} {r bb : Nat} {v : Value} {l : List Nat} (h : ChIn w r bb v l) (hb : Below w.heap.size w w') : ChIn w' r bb v l := by
  obtain ⟨a, c, e, hle, hh⟩ := h
  refine ⟨a, c, e, hle, fun j hj => ?_⟩
  obtain ⟨b, o, e2, h1, h2, hc⟩ := hh j hj
  exact ⟨b, o, e2, h1, h2, by rw [hb.cell (World.block_lt_of_cell? _ _ hc)]; exact hc⟩
/-- The document's slab: its cells. -/
def crV (S : Sl) (bb bc : Nat) (v : Value) (i : Nat) : Value :=
  if i = 0 then .slice (some ⟨bb, 0, none⟩) 256 bc else if i = 1 then .int .i64 S.sz else if i = 2 then .int .i64 S.co else if i = 3 then .int .i64 S.n else if i = 4 then v
  else if i < 37 then .bool (S.out (i - 5)) else .int .u64 (S.tu (i - 37))
structure CRef (w : World) (r bb bc : Nat) (S : Sl) (v : Value) : Prop where
  row : RowAt w r 69 (crV S bb bc v)
  byt : RowAt w bb 256 (byV S.bt)
  chn : ChIn w r bb v S.ch
  ne : r ≠ bb
section
variable {w w' : World} {r bb bc : Nat} {S : Sl} {v : Value}
theorem CRef.later (R : CRef w r bb bc S v) (h : Below w.heap.size w w') : CRef w' r bb bc S v := ⟨R.row.later h, R.byt.later h, R.chn.later h, R.ne⟩
theorem CRef.c0 (R : CRef w r bb bc S v) : w.cell? ⟨r, 0, none⟩ = some (.slice (some ⟨bb, 0, none⟩) 256 bc) := R.row.cell 0 (by decide)
theorem CRef.c1 (R : CRef w r bb bc S v) : w.cell? ⟨r, 1, none⟩ = some (.int .i64 S.sz) := R.row.cell 1 (by decide)
theorem CRef.c2 (R : CRef w r bb bc S v) : w.cell? ⟨r, 2, none⟩ = some (.int .i64 S.co) := R.row.cell 2 (by decide)
theorem CRef.c3 (R : CRef w r bb bc S v) : w.cell? ⟨r, 3, none⟩ = some (.int .i64 S.n) := R.row.cell 3 (by decide)
theorem CRef.c4 (R : CRef w r bb bc S v) : w.cell? ⟨r, 4, none⟩ = some v := R.row.cell 4 (by decide)
theorem crV_out (S : Sl) (bb bc : Nat) (v : Value) {i : Nat} (h : i < 32) : crV S bb bc v (5 + i) = .bool (S.out i) := by
  unfold crV
  rw [if_neg (by omega), if_neg (by omega), if_neg (by omega), if_neg (by omega), if_neg (by omega), if_pos (by omega), show 5 + i - 5 = i by omega]
theorem crV_tu (S : Sl) (bb bc : Nat) (v : Value) (i : Nat) : crV S bb bc v (37 + i) = .int .u64 (S.tu i) := by
  unfold crV
  rw [if_neg (by omega), if_neg (by omega), if_neg (by omega), if_neg (by omega), if_neg (by omega), if_neg (by omega), show 37 + i - 37 = i by omega]
theorem CRef.co (R : CRef w r bb bc S v) {i : Nat} (h : i < 32) : w.cell? ⟨r, 5 + i, none⟩ = some (.bool (S.out i)) := by
  rw [← crV_out S bb bc v h]
  exact R.row.cell _ (by omega)
theorem CRef.ct (R : CRef w r bb bc S v) {i : Nat} (h : i < 32) : w.cell? ⟨r, 37 + i, none⟩ = some (.int .u64 (S.tu i)) := by
  rw [← crV_tu S bb bc v i]
  exact R.row.cell _ (by omega)
/-- A turn is set. -/
theorem CRef.setTu (R : CRef w r bb bc S v) {i : Nat} (h : i < 32) (t : Int) : CRef (w.setCell ⟨r, 37 + i, none⟩ (.int .u64 t)) r bb bc { S with tu := updC S.tu i t } v ∧ Only (fun k => k = r) w (w.setCell ⟨r, 37 + i, none⟩ (.int .u64 t)) := by
  have ho : Only (fun k => k = r) w (w.setCell ⟨r, 37 + i, none⟩ (.int .u64 t)) := Only.setCell (S := fun k => k = r) _ ⟨r, 37 + i, none⟩ rfl _
  refine ⟨⟨(R.row.setCell (37 + i) _).ext fun k hk => ?_, R.byt.only ho (fun e => R.ne e.symm), R.chn.only ho (fun k hk => .inl hk), R.ne⟩, ho⟩
  unfold updV crV
  by_cases e : k = 37 + i
  · subst e
    rw [if_pos rfl, if_neg (by omega), if_neg (by omega), if_neg (by omega), if_neg (by omega), if_neg (by omega), if_neg (by omega), show 37 + i - 37 = i by omega]
    show Value.int .u64 t = Value.int .u64 (updC S.tu i t i)
    rw [updC_same]
  · rw [if_neg e]
    by_cases h0 : k < 37
    · repeat' split
      all_goals first | rfl | omega
    · rw [if_neg (by omega), if_neg (by omega), if_neg (by omega), if_neg (by omega), if_neg (by omega), if_neg h0]
      rw [if_neg (by omega), if_neg (by omega), if_neg (by omega), if_neg (by omega), if_neg (by omega), if_neg h0]
      show _ = Value.int .u64 (updC S.tu i t (k - 37))
      rw [updC_other _ (by omega)]
end
set_option maxRecDepth 100000 in
set_option maxHeartbeats 2000000 in
theorem rmay_any (size colour : Int) (w : World) : Calls Try.prog 28 #[.int .i64 size, .int .i64 colour] w fun e w' => e = .returned (.bool (mayC size colour)) ∧ w = w' := by
  have key : ∀ b : Bool, mayC size colour = b → (Calls Try.prog 28 #[.int .i64 size, .int .i64 colour] w fun e w' => e = .returned (.bool b) ∧ w = w') → (Calls Try.prog 28 #[.int .i64 size, .int .i64 colour] w fun e w' => e = .returned (.bool (mayC size colour)) ∧ w = w') := fun b e h => by rw [e]; exact h
  by_cases h1 : size < 8
  · refine key false (decide_eq_false (by omega)) ?_
    go_enter Try.func28, Try.ntmps28
    go_wp2_with (fail)
    go_ret
    exact ⟨rfl, rfl⟩
  · by_cases h2 : 128 < size
    · refine key false (decide_eq_false (by omega)) ?_
      go_enter Try.func28, Try.ntmps28
      go_wp2_with (fail)
      go_ret
      exact ⟨rfl, rfl⟩
    · obtain ⟨s, rfl⟩ : ∃ s : Nat, size = s := ⟨size.toNat, by omega⟩
      by_cases h3 : s % 8 = 0
      · have e3 : ((s : Int) % 8 == 0) = true := by simp; omega
        by_cases h4 : colour < 0
        · have h4b : ¬ 0 ≤ colour := by omega
          refine key false (decide_eq_false (by omega)) ?_
          go_enter Try.func28, Try.ntmps28
          go_wp2_with (fail)
          go_ret
          exact ⟨rfl, rfl⟩
        · obtain ⟨c, rfl⟩ : ∃ c : Nat, colour = c := ⟨colour.toNat, by omega⟩
          obtain ⟨m, hm, hw⟩ : ∃ m : Nat, (256 : Int) % (s : Int) = (m : Int) ∧ m < 256 := ⟨256 % s, by simp, by
            have := Nat.mod_lt 256 (show 0 < s by omega)
            omega⟩
          by_cases h5 : c % 8 = 0
          · have e5 : ((c : Int) % 8 == 0) = true := by simp; omega
            by_cases h6 : c ≤ m
            · refine key true (decide_eq_true ⟨by omega, by omega, by omega, by omega, by omega, by rw [hm]; omega⟩) ?_
              go_enter Try.func28, Try.ntmps28
              have h6I : (c : Int) ≤ (m : Int) := by omega
              go_wp2_with (fail)
              go_ret
              exact ⟨rfl, rfl⟩
            · refine key false (decide_eq_false (fun h => h6 (by have := h.2.2.2.2.2; rw [hm] at this; omega))) ?_
              have h6I : ¬ (c : Int) ≤ (m : Int) := by omega
              go_enter Try.func28, Try.ntmps28
              go_wp2_with (fail)
              go_ret
              exact ⟨rfl, rfl⟩
          · have e5 : ((c : Int) % 8 == 0) = false := by simp; omega
            refine key false (decide_eq_false (by omega)) ?_
            go_enter Try.func28, Try.ntmps28
            go_wp2_with (fail)
            go_ret
            exact ⟨rfl, rfl⟩
      · have e3 : ((s : Int) % 8 == 0) = false := by simp; omega
        refine key false (decide_eq_false (by omega)) ?_
        go_enter Try.func28, Try.ntmps28
        go_wp2_with (fail)
        go_ret
        exact ⟨rfl, rfl⟩
section
variable {w : World} {r bb bc : Nat} {S : Sl} {v : Value}
/-- An answer, and a slab. -/
def CPost (w : World) (r bb bc : Nat) (v : Value) (q : Int × Sl) (e : Ending) (w' : World) : Prop :=
  e = .returned (.int .i64 q.1) ∧ CRef w' r bb bc q.2 v ∧ Only (fun k => k = r) w w'
theorem CPost.same {q : Int} (R : CRef w r bb bc S v) : CPost w r bb bc v (q, S) (.returned (.int .i64 q)) w := ⟨rfl, R, Only.refl _ _⟩
set_option maxRecDepth 100000 in
set_option maxHeartbeats 2000000 in
theorem rclear_any (R : CRef w r bb bc S v) (I : SlI S) (i : Int) :
    Calls Try.prog 26 #[.pointer (some ⟨r, 0, none⟩), .int .i64 i] w (CPost w r bb bc v (S.clr i)) := by
  have c3 := R.c3
  have hn := I.parts.2.2.2.1
  by_cases h0 : i < 0
  · have hz : S.clr i = (2, S) := by unfold Sl.clr; rw [if_pos (has_no.2 (.inl h0))]
    rw [hz]
    have HP := Lib.hid (CPost.same (q := 2) R)
    clear hz I R
    generalize S.n = n at *
    go_enter Try.func26, Try.ntmps26
    go_wp2_with (fail)
    go_ret
    exact HP.out
  · obtain ⟨k, rfl⟩ : ∃ k : Nat, i = k := ⟨i.toNat, by omega⟩
    by_cases h1 : k < S.n
    · have hk32 : (k : Int) < 32 := by omega
      have h1I : ¬ (S.n : Int) ≤ (k : Int) := by omega
      have ct := R.ct (i := k) (by omega)
      have hh := has_nat.2 h1
      by_cases ht : S.tu k = 0
      · have hz : S.clr k = (7, S) := by unfold Sl.clr; rw [if_neg (by rw [hh]; decide), if_pos (by rw [Int.toNat_natCast]; exact ht)]
        rw [hz]
        rw [ht] at ct
        have HP := Lib.hid (CPost.same (q := 7) R)
        clear hz I R hh ht
        generalize S.n = n at *
        go_enter Try.func26, Try.ntmps26
        go_wp2_with (fail)
        go_ret
        exact HP.out
      · have hz : S.clr k = (0, { S with tu := updC S.tu k 0 }) := by unfold Sl.clr; rw [if_neg (by rw [hh]; decide), if_neg (by rw [Int.toNat_natCast]; exact ht), Int.toNat_natCast]
        rw [hz]
        have htb : (S.tu k == 0) = false := by simpa using ht
        have fr : w.frozen? ⟨r, 37 + k, none⟩ = false := R.row.frozen _
        have hs := R.setTu (i := k) (by omega) 0
        have HP := Lib.hid (show CPost w r bb bc v (0, { S with tu := updC S.tu k 0 }) (.returned (.int .i64 0)) (w.setCell ⟨r, 37 + k, none⟩ (.int .u64 0)) from ⟨rfl, hs.1, hs.2⟩)
        clear hz I R hh hs
        generalize S.n = n at *
        generalize S.tu k = t at *
        go_enter Try.func26, Try.ntmps26
        go_wp2_with (fail)
        go_ret
        exact HP.out
    · have hz : S.clr k = (2, S) := by unfold Sl.clr; rw [if_pos (has_no.2 (.inr (by omega)))]
      rw [hz]
      have HP := Lib.hid (CPost.same (q := 2) R)
      have h1I : (S.n : Int) ≤ (k : Int) := by omega
      clear hz I R
      generalize S.n = n at *
      go_enter Try.func26, Try.ntmps26
      go_wp2_with (fail)
      go_ret
      exact HP.out
end
end Go.Proofs.Ytlimbcpghfddkaa
