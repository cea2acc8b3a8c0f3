/-
  slots: the landed New, Copy; slices.Clone.
-/
import Derived.Test.YtenfeamohcclaaaSkTk
import Derived.Deep.OwnRows
namespace Go.Proofs.Ytenfeamohcclaaa
open Go.RowKit Go.Shelf Go
attribute [local go_sem] Oper.semAt_some

theorem make_ows (N : Nat) (hN : N ≤ 1024) : ∀ W, (Instr.makeSlice 51 (.int .i64 (N : Int)) (.int .i64 (N : Int))).run Try.prog W = .ok (.slice (some ⟨W.heap.size, 0, none⟩) N N) (W.alloc (.cells (madeCells #[Value.int .i64 0, .int .i64 0] (N * 2)) TOw)) := by
  obtain ⟨i0, hi, hz0, hz1, hz2⟩ := info_parts infoOw
  intro W
  have h := run_make (P := Try.prog) W 51 58 i0 _ Try.underlying51 hi hz0 .i64 .i64 N N (by omega) (by omega) (by rw [hz2]; omega) (by omega)
  rw [hz1] at h
  simp only [Int.toNat_natCast] at h
  exact h
theorem owns_zero (W : World) (base N : Nat) (hb : base ≤ W.heap.size) (hN : N ≤ 1024) : (W.alloc (.cells (madeCells #[Value.int .i64 0, .int .i64 0] (N * 2)) TOw)).ownsRow base TOw 2 (.slice (some ⟨W.heap.size, 0, none⟩) N N) N (owL (fun _ => (0, 0)) N) := by
  refine ⟨owL_len _ _, .inr ⟨W.heap.size, N, _, rfl, hb, heap_alloc_new W _, Nat.le_refl _, by unfold maxLen; omega, size_madeCells _ _, ?_⟩⟩
  refine List.ext_getElem? fun j => ?_
  by_cases hj : j < N * 2
  · rw [List.getElem?_take_of_lt hj, made_at _ _ _ hj, owL_at hj]
    unfold owV
    rcases (show j % 2 = 0 ∨ j % 2 = 1 by omega) with e | e
    · rw [if_pos e]
      show some ((#[Value.int .i64 0, .int .i64 0] : Array Value)[j % 2]!) = _
      rw [e]
      rfl
    · rw [if_neg (by omega)]
      show some ((#[Value.int .i64 0, .int .i64 0] : Array Value)[j % 2]!) = _
      rw [e]
      rfl
  · rw [List.getElem?_eq_none (by simp; omega), List.getElem?_eq_none (by rw [owL_len]; omega)]
/-- What New and Copy leave. -/
def SkN (w : World) (N : Nat) (f : Nat → Ownr) (e : Ending) (w' : World) : Prop := ∃ d v, e = .returned (.pointer (some ⟨d, 0, none⟩)) ∧ TTurn w Thg.no w' (thS d true v N f)
/-- Slots that are made of a row. -/
theorem skN_of {w W : World} {N : Nat} {v : Value} {f : Nat → Ownr} (hb : Below w.heap.size w W) (ho : W.ownsRow w.heap.size TOw 2 v N (owL f N)) :
    SkN w N f (.returned (.pointer (some ⟨W.heap.size, 0, none⟩))) (W.alloc (.cells #[.bool true, v] 53)) := by
  have hb2 := (Below.refl W.heap.size W).alloc (Nat.le_refl _) (.cells #[.bool true, v] 53)
  refine ⟨W.heap.size, v, rfl, ⟨RowAt.new W _ _ 2 _ (fun i hi => ?_), owns_base (owns_later ho hb2) (fun k _ => Nat.zero_le _), fun e => ?_⟩, ?_, fun k hk => ?_⟩
  · unfold skV
    rcases (show i = 0 ∨ i = 1 by omega) with rfl | rfl <;> rfl
  · have := (ho.lt _ e).2
    omega
  · exact Only.of_below (hb.trans (hb2.mono hb.size))
  · refine .inr ?_
    rcases hk with rfl | hk
    · exact hb.size
    · exact (ho.lt _ hk).1
theorem skN_new (w : World) (N : Nat) (hN : N ≤ 1024) : SkN w N (fun _ => (0, 0)) (.returned (.pointer (some ⟨w.heap.size + 1, 0, none⟩)))
    ((w.alloc (.cells (madeCells #[Value.int .i64 0, .int .i64 0] (N * 2)) TOw)).alloc (.cells #[.bool true, .slice (some ⟨w.heap.size, 0, none⟩) N N] 53)) := by
  have hb1 := (Below.refl w.heap.size w).alloc (Nat.le_refl _) (.cells (madeCells #[Value.int .i64 0, .int .i64 0] (N * 2)) TOw)
  have h := skN_of hb1 (owns_zero w w.heap.size N (Nat.le_refl _) hN)
  rw [World.size_alloc] at h
  exact h
section
variable {w w' w1 : World} {d N : Nat} {v : Value} {f : Nat → Ownr}
set_option maxRecDepth 100000 in
set_option maxHeartbeats 2000000 in
theorem new_sk (w : World) (n : Int) : Calls Try.prog 9 #[.int .i64 n] w (SkN w (capN n) (fun _ => (0, 0))) := by
  by_cases h0 : n < 0
  · rw [show capN n = 0 from if_pos h0]
    have HN := Lib.hid (skN_new w 0 (by decide))
    have hm : ∀ W, (Instr.makeSlice 51 (.int .i64 0) (.int .i64 0)).run Try.prog W = .ok (.slice (some ⟨W.heap.size, 0, none⟩) 0 0) (W.alloc (.cells (madeCells #[Value.int .i64 0, .int .i64 0] 0) TOw)) := make_ows 0 (by decide)
    rw [show 0 * 2 = 0 from rfl] at HN
    generalize madeCells #[Value.int .i64 0, .int .i64 0] 0 = Z at *
    go_enter Try.func9, Try.ntmps9
    go_wp2_with (fail)
    go_ret
    exact HN.out
  · by_cases h1 : 1024 < n
    · rw [show capN n = 1024 from by unfold capN; rw [if_neg h0, if_pos h1]]
      have HN := Lib.hid (skN_new w 1024 (by decide))
      have hm : ∀ W, (Instr.makeSlice 51 (.int .i64 1024) (.int .i64 1024)).run Try.prog W = .ok (.slice (some ⟨W.heap.size, 0, none⟩) 1024 1024) (W.alloc (.cells (madeCells #[Value.int .i64 0, .int .i64 0] (1024 * 2)) TOw)) := make_ows 1024 (by decide)
      generalize madeCells #[Value.int .i64 0, .int .i64 0] (1024 * 2) = Z at *
      go_enter Try.func9, Try.ntmps9
      go_wp2_with (fail)
      go_ret
      exact HN.out
    · obtain ⟨N, rfl⟩ : ∃ N : Nat, n = N := ⟨n.toNat, by omega⟩
      rw [show capN (N : Int) = N from by unfold capN; rw [if_neg h0, if_neg h1, Int.toNat_natCast]]
      have HN := Lib.hid (skN_new w N (by omega))
      have hm := make_ows N (by omega)
      generalize madeCells #[Value.int .i64 0, .int .i64 0] (N * 2) = Z at *
      go_enter Try.func9, Try.ntmps9
      go_wp2_with (fail)
      go_ret
      exact HN.out
/-- A row of the call's own is told. -/
def OwsP (w : World) (N : Nat) (f : Nat → Ownr) (e : Ending) (w' : World) : Prop := ∃ v, e = .returned v ∧ w'.ownsRow w.heap.size TOw 2 v N (owL f N) ∧ Below w.heap.size w w'
theorem slice_not (ad : Addr) (n c : Nat) (W : World) : (binOp .eql 51 (.slice (some ad) n c) (.slice none 0 0)).run Try.prog W = .ok (.bool false) W := by kernel_rfl
theorem slice_nothing (W : World) : (binOp .eql 51 (.slice none 0 0) (.slice none 0 0)).run Try.prog W = .ok (.bool true) W := by kernel_rfl
set_option maxRecDepth 100000 in
set_option maxHeartbeats 4000000 in
theorem clone_ow (ho : w.ownsRow 0 TOw 2 v N (owL f N)) (hN : N ≤ 1024) : Calls Try.prog 27 #[v] w (OwsP w N f) := by
  obtain ⟨i0, hi, hz0, hz1, hz2⟩ := info_parts infoOw
  rcases ho.2 with ⟨rfl, h0⟩ | ⟨g, c, cur, rfl, hb, hg, _⟩
  · have hsn := slice_nothing
    subst h0
    have HP := Lib.hid (show OwsP w 0 f (.returned (.slice none 0 0)) w from ⟨_, rfl, World.ownsRow_nil _ _ _ _, Below.refl _ _⟩)
    clear ho
    go_enter Try.func27, Try.ntmps27
    go_wp2_with (fail)
    go_ret
    exact HP.out
  · have hba : Below w.heap.size w (w.alloc (.cells #[] TOw)) := (Below.refl _ _).alloc (Nat.le_refl _) _
    have HW := Lib.hid (World.ownsRow_made w (e := TOw) (base := w.heap.size) (size := 2) #[] 0 (Nat.le_refl _) (Nat.zero_le _) (by simp))
    have HB := Lib.hid hba
    have HSR := Lib.hid (show 0 < N → ∃ ad', some (⟨g, 0, none⟩ : Addr) = some ad' ∧ ∀ j u, (owL f N)[j]? = some u → (w.alloc (.cells #[] TOw)).cell? (ad'.add j) = some u from
      fun hp => ⟨_, rfl, fun j u hj => by
        have hlt := (List.getElem?_eq_some_iff.1 hj).1
        rw [owL_len] at hlt
        obtain ⟨g2, c2, e2, _, _, _, hc, _⟩ := owns_where (owns_later ho hba) hp
        have : g2 = g := by
          simp only [Value.slice.injEq, Option.some.injEq, Addr.mk.injEq] at e2
          exact e2.1.1.symm
        subst this
        rw [Addr.add_lit, Nat.zero_add]
        exact hc j u hlt hj⟩)
    have HLE := Lib.hid hba.size
    clear hba ho hg
    have hne := slice_not
    go_enter Try.func27, Try.ntmps27
    go_wp2_with (first | (at_builtin; refine wpList_append_src _ rfl _ _ 51 rfl w.heap.size 58 i0 _ 2 16 Try.underlying51 hi hz0 hz1 hz2 rfl (by decide) _ _ _ rfl HW.out (some ⟨g, 0, none⟩) N c (owL f N) rfl (owL_len _ _) HSR.out (owL_one _ _) (by unfold maxLen; omega) (by omega) HLE.out ?_; intro v3 w3 hown3 hgr3 _) | fail)
    have HP := Lib.hid (show OwsP w N f (.returned v3) w3 from ⟨_, rfl, by rw [Nat.zero_add, List.nil_append] at hown3; exact hown3, (Only.of_grown hgr3).below HB.out HB.out.size (fun k hk => (HW.out.lt k hk).1)⟩)
    clear hown3 hgr3 HB HW HSR HLE
    go_wp2_with (fail)
    go_ret
    exact HP.out
set_option maxRecDepth 100000 in
set_option maxHeartbeats 2000000 in
theorem copy_sk (h : SkAt w d true v N f) (hN : N ≤ 1024) : Calls Try.prog 16 #[.pointer (some ⟨d, 0, none⟩)] w (SkN w N f) := by
  have HM := Lib.hid (missing_sk (d := some d) ⟨v, h⟩)
  simp only [Option.map_some, Bool.not_true] at HM
  have c1 := h.c1
  have HC := Lib.hid (clone_ow h.ow hN)
  obtain ⟨a, c, rfl, _⟩ := owns_slice h.ow
  clear h
  go_enter Try.func16, Try.ntmps16
  go_wp2_with (fail)
  refine HM.out.mono ?_
  rintro e w1 ⟨rfl, rfl⟩
  go_wp2_with (fail)
  refine HC.out.mono ?_
  rintro e w1 ⟨v1, rfl, ho1, hb1⟩
  obtain ⟨va, vc, rfl, _⟩ := owns_slice ho1
  have HN := Lib.hid (skN_of hb1 ho1)
  clear ho1 hb1
  go_wp2_with (fail)
  go_ret
  exact HN.out
end
end Go.Proofs.Ytenfeamohcclaaa
