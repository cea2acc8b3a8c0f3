/-
  chain's document: Mark, At.
-/
import Derived.Test.YtifiecfkcikdmaaChRef
namespace Go.Proofs.Ytifiecfkcikdmaa
open Go.RowKit Go

section
variable {w : World} {r bb bc : Nat} {S : Sl} {v : Value}
set_option maxRecDepth 100000 in
set_option maxHeartbeats 2000000 in
theorem rmark_any (R : CRef w r bb bc S v) (I : SlI S) (i t : Int) :
    Calls Try.prog 18 #[.pointer (some ⟨r, 0, none⟩), .int .i64 i, .int .u64 t] w (CPost w r bb bc v (S.mark i t)) := by
  have c3 := R.c3
  have hn := I.parts.2.2.2.1
  by_cases h0 : i < 0
  · have hz : S.mark i t = (2, S) := by unfold Sl.mark; rw [if_pos (.inl (has_no.2 (.inl h0)))]
    rw [hz]
    have HP := Lib.hid (CPost.same (q := 2) R)
    clear hz I R
    generalize S.n = n at *
    go_enter Try.func18, Try.ntmps18
    go_wp2_with (fail)
    go_ret
    exact HP.out
  · obtain ⟨k, rfl⟩ : ∃ k : Nat, i = k := ⟨i.toNat, by omega⟩
    by_cases h1 : k < S.n
    · have hk32 : (k : Int) < 32 := by omega
      have h1I : ¬ (S.n : Int) ≤ (k : Int) := by omega
      have co := R.co (i := k) (by omega)
      have ct := R.ct (i := k) (by omega)
      have hh := has_nat.2 h1
      by_cases ht0 : t = 0
      · subst ht0
        have hz : S.mark k 0 = (2, S) := by unfold Sl.mark; rw [if_pos (.inr rfl)]
        rw [hz]
        have HP := Lib.hid (CPost.same (q := 2) R)
        clear hz I R hh ct co
        generalize S.n = n at *
        go_enter Try.func18, Try.ntmps18
        go_wp2_with (fail)
        go_ret
        exact HP.out
      · have ht0b : (t == 0) = false := by simpa using ht0
        cases ho : S.out k with
        | false =>
          have hz : S.mark k t = (7, S) := by unfold Sl.mark; rw [if_neg (by rw [hh]; simp [ht0]), if_pos (by rw [Int.toNat_natCast]; exact ho)]
          rw [hz]
          rw [ho] at co
          have HP := Lib.hid (CPost.same (q := 7) R)
          clear hz I R hh ct ho ht0
          generalize S.n = n at *
          go_enter Try.func18, Try.ntmps18
          go_wp2_with (fail)
          go_ret
          exact HP.out
        | true =>
          rw [ho] at co
          by_cases ht : S.tu k = 0
          · have hz : S.mark k t = (0, { S with tu := updC S.tu k t }) := by unfold Sl.mark; rw [if_neg (by rw [hh]; simp [ht0]), if_neg (by rw [Int.toNat_natCast, ho]; decide), if_neg (by rw [Int.toNat_natCast]; exact fun h => h ht), Int.toNat_natCast]
            rw [hz]
            rw [ht] at ct
            have fr : w.frozen? ⟨r, 37 + k, none⟩ = false := R.row.frozen _
            have hs := R.setTu (i := k) (by omega) t
            have HP := Lib.hid (show CPost w r bb bc v (0, { S with tu := updC S.tu k t }) (.returned (.int .i64 0)) (w.setCell ⟨r, 37 + k, none⟩ (.int .u64 t)) from ⟨rfl, hs.1, hs.2⟩)
            clear hz I R hh hs ho ht0 ht
            generalize S.n = n at *
            go_enter Try.func18, Try.ntmps18
            go_wp2_with (fail)
            go_ret
            exact HP.out
          · have hz : S.mark k t = (8, S) := by unfold Sl.mark; rw [if_neg (by rw [hh]; simp [ht0]), if_neg (by rw [Int.toNat_natCast, ho]; decide), if_pos (by rw [Int.toNat_natCast]; exact ht)]
            rw [hz]
            have htb : (S.tu k == 0) = false := by simpa using ht
            have HP := Lib.hid (CPost.same (q := 8) R)
            clear hz I R hh ho ht0 ht
            generalize S.n = n at *
            generalize S.tu k = u at *
            go_enter Try.func18, Try.ntmps18
            go_wp2_with (fail)
            go_ret
            exact HP.out
    · have hz : S.mark k t = (2, S) := by unfold Sl.mark; rw [if_pos (.inl (has_no.2 (.inr (by omega))))]
      rw [hz]
      have HP := Lib.hid (CPost.same (q := 2) R)
      have h1I : (S.n : Int) ≤ (k : Int) := by omega
      clear hz I R
      generalize S.n = n at *
      go_enter Try.func18, Try.ntmps18
      go_wp2_with (fail)
      go_ret
      exact HP.out
set_option maxRecDepth 100000 in
set_option maxHeartbeats 2000000 in
theorem rat_any (R : CRef w r bb bc S v) (I : SlI S) (i : Int) :
    Calls Try.prog 21 #[.pointer (some ⟨r, 0, none⟩), .int .i64 i] w fun e w' => e = .returned (.tuple #[.int .i64 (S.place i).1, .int .i64 (S.place i).2]) ∧ Below w.heap.size w w' := by
  have c1 := R.c1
  have c2 := R.c2
  have c3 := R.c3
  have hn := I.parts.2.2.2.1
  have hsz := I.parts
  by_cases h0 : i < 0
  · have hz : S.place i = (0, 0) := by unfold Sl.place; rw [if_neg (by rw [has_no.2 (.inl h0)]; decide)]
    rw [hz]
    have HB := Lib.hid (Below.refl w.heap.size w)
    clear hz I R hsz
    generalize S.n = n at *
    go_enter Try.func21, Try.ntmps21
    go_wp2_with (fail)
    go_ret2
    exact ⟨rfl, HB.out⟩
  · obtain ⟨k, rfl⟩ : ∃ k : Nat, i = k := ⟨i.toNat, by omega⟩
    by_cases h1 : k < S.n
    · have h1I : ¬ (S.n : Int) ≤ (k : Int) := by omega
      have hfit := I.fit h1
      have hz : S.place k = ((S.pos k : Int), (S.pos k + S.sz : Int)) := by unfold Sl.place; rw [if_pos (has_nat.2 h1), Int.toNat_natCast]
      rw [hz]
      obtain ⟨m, hm⟩ : ∃ m : Nat, k * S.sz = m := ⟨_, rfl⟩
      have hmI : (k : Int) * (S.sz : Int) = (m : Int) := by rw [← hm]; simp
      have hmI2 : ((k : Int) + 1) * (S.sz : Int) = (m : Int) + (S.sz : Int) := by rw [Int.add_mul, hmI]; omega
      have hp : S.pos k = S.co + m := by unfold Sl.pos; rw [hm]
      rw [hp] at hfit ⊢
      have L1 := Lib.hid (show ∀ V, V = w.drew → (loadVar 3 ⟨r, 1, none⟩).run Try.prog V = .ok (.int .i64 S.sz) V from fun V hV => run_loadVar_cell (fun _ => by kernel_rfl) (by rw [hV]; exact c1))
      have L2 := Lib.hid (show ∀ V, V = w.drew → (loadVar 3 ⟨r, 2, none⟩).run Try.prog V = .ok (.int .i64 S.co) V from fun V hV => run_loadVar_cell (fun _ => by kernel_rfl) (by rw [hV]; exact c2))
      have HB := Lib.hid ((Below.refl w.heap.size w).drew)
      have hk32 : k < 32 := by omega
      clear hz I R hm hp
      generalize S.n = n at *
      generalize S.sz = sz at *
      generalize S.co = co at *
      have e1 : IntKind.i64.wrap ((co : Int) + IntKind.i64.wrap (m : Int)) = ((co + m : Nat) : Int) := by simp only [IntKind.wrap_i64]; omega
      have e2 : IntKind.i64.wrap ((co : Int) + IntKind.i64.wrap (IntKind.i64.wrap ((k : Int) + 1) * (sz : Int))) = ((co + m : Nat) : Int) + (sz : Int) := by
        rw [show IntKind.i64.wrap ((k : Int) + 1) = (k : Int) + 1 by rw [IntKind.wrap_i64]; omega, hmI2]
        simp only [IntKind.wrap_i64]
        omega
      rw [← e2, ← e1]
      clear e1 e2
      go_enter Try.func21, Try.ntmps21
      go_wp2_with (fail)
      refine wp_region_lex1 (fun V => V = w.drew) [(0, false), (1, false), (2, false), (3, false), (4, false), (5, false), (6, false), (7, false), (8, false), (9, false), (10, false), (11, false), (12, false), (13, false), (14, false), (15, false), (16, false), (17, false), (18, false), (19, false), (20, false), (21, false), (22, false), (23, false), (24, false)]
        (by kernel_rfl) (by kernel_rfl) rfl (by kernel_rfl) rfl ?_
      intro V0 hV0 hK0
      clear hK0
      subst hV0
      refine lexH_yieldE rfl rfl ?_
      apply Exists.intro
      refine ⟨fun W hW => ?_, ?_⟩
      focus (go_simp; exact rfl)
      simp only [List.getElem_toArray, List.getElem_cons_zero, Act.put, List.setIfInBounds_toArray, List.set_cons_zero, List.set_cons_succ]
      refine lexH_yieldE rfl rfl ?_
      apply Exists.intro
      refine ⟨fun W hW => ?_, ?_⟩
      focus (go_simp; exact rfl)
      simp only [List.getElem_toArray, List.getElem_cons_succ, List.getElem_cons_zero, Act.put, List.setIfInBounds_toArray, List.set_cons_zero, List.set_cons_succ]
      refine lexH_yieldE rfl rfl ?_
      apply Exists.intro
      refine ⟨fun W hW => ?_, ?_⟩
      focus (go_simp; exact rfl)
      simp only [List.getElem_toArray, List.getElem_cons_succ, List.getElem_cons_zero, Act.put, List.setIfInBounds_toArray, List.set_cons_zero, List.set_cons_succ]
      refine lexH_load rfl rfl _ _ rfl rfl L2.out ?_
      simp only [List.getElem_toArray, List.getElem_cons_succ, List.getElem_cons_zero, Act.put, List.setIfInBounds_toArray, List.set_cons_zero, List.set_cons_succ]
      refine lexH_yieldE rfl rfl ?_
      apply Exists.intro
      refine ⟨fun W hW => ?_, ?_⟩
      focus (go_simp; exact rfl)
      simp only [List.getElem_toArray, List.getElem_cons_succ, List.getElem_cons_zero, Act.put, List.setIfInBounds_toArray, List.set_cons_zero, List.set_cons_succ]
      refine lexH_yieldE rfl rfl ?_
      apply Exists.intro
      refine ⟨fun W hW => ?_, ?_⟩
      focus (go_simp; exact rfl)
      simp only [List.getElem_toArray, List.getElem_cons_succ, List.getElem_cons_zero, Act.put, List.setIfInBounds_toArray, List.set_cons_zero, List.set_cons_succ]
      refine lexH_yieldE rfl rfl ?_
      apply Exists.intro
      refine ⟨fun W hW => ?_, ?_⟩
      focus (go_simp; exact rfl)
      simp only [List.getElem_toArray, List.getElem_cons_succ, List.getElem_cons_zero, Act.put, List.setIfInBounds_toArray, List.set_cons_zero, List.set_cons_succ]
      refine lexH_yieldE rfl rfl ?_
      apply Exists.intro
      refine ⟨fun W hW => ?_, ?_⟩
      focus (go_simp; exact rfl)
      simp only [List.getElem_toArray, List.getElem_cons_succ, List.getElem_cons_zero, Act.put, List.setIfInBounds_toArray, List.set_cons_zero, List.set_cons_succ]
      refine lexH_load rfl rfl _ _ rfl rfl L1.out ?_
      simp only [List.getElem_toArray, List.getElem_cons_succ, List.getElem_cons_zero, Act.put, List.setIfInBounds_toArray, List.set_cons_zero, List.set_cons_succ]
      refine lexH_yieldE rfl rfl ?_
      apply Exists.intro
      refine ⟨fun W hW => ?_, ?_⟩
      focus (go_simp; exact rfl)
      simp only [List.getElem_toArray, List.getElem_cons_succ, List.getElem_cons_zero, Act.put, List.setIfInBounds_toArray, List.set_cons_zero, List.set_cons_succ]
      refine lexH_yieldE rfl rfl ?_
      apply Exists.intro
      refine ⟨fun W hW => ?_, ?_⟩
      focus (go_simp; exact rfl)
      simp only [List.getElem_toArray, List.getElem_cons_succ, List.getElem_cons_zero, Act.put, List.setIfInBounds_toArray, List.set_cons_zero, List.set_cons_succ]
      refine lexH_yieldE rfl rfl ?_
      apply Exists.intro
      refine ⟨fun W hW => ?_, ?_⟩
      focus (go_simp; exact rfl)
      simp only [List.getElem_toArray, List.getElem_cons_succ, List.getElem_cons_zero, Act.put, List.setIfInBounds_toArray, List.set_cons_zero, List.set_cons_succ]
      refine lexH_yieldE rfl rfl ?_
      apply Exists.intro
      refine ⟨fun W hW => ?_, ?_⟩
      focus (go_simp; exact rfl)
      simp only [List.getElem_toArray, List.getElem_cons_succ, List.getElem_cons_zero, Act.put, List.setIfInBounds_toArray, List.set_cons_zero, List.set_cons_succ]
      refine lexH_yieldE rfl rfl ?_
      apply Exists.intro
      refine ⟨fun W hW => ?_, ?_⟩
      focus (go_simp; exact rfl)
      simp only [List.getElem_toArray, List.getElem_cons_succ, List.getElem_cons_zero, Act.put, List.setIfInBounds_toArray, List.set_cons_zero, List.set_cons_succ]
      refine lexH_load rfl rfl _ _ rfl rfl L2.out ?_
      simp only [List.getElem_toArray, List.getElem_cons_succ, List.getElem_cons_zero, Act.put, List.setIfInBounds_toArray, List.set_cons_zero, List.set_cons_succ]
      refine lexH_yieldE rfl rfl ?_
      apply Exists.intro
      refine ⟨fun W hW => ?_, ?_⟩
      focus (go_simp; exact rfl)
      simp only [List.getElem_toArray, List.getElem_cons_succ, List.getElem_cons_zero, Act.put, List.setIfInBounds_toArray, List.set_cons_zero, List.set_cons_succ]
      refine lexH_yieldE rfl rfl ?_
      apply Exists.intro
      refine ⟨fun W hW => ?_, ?_⟩
      focus (go_simp; exact rfl)
      simp only [List.getElem_toArray, List.getElem_cons_succ, List.getElem_cons_zero, Act.put, List.setIfInBounds_toArray, List.set_cons_zero, List.set_cons_succ]
      refine lexH_yieldE rfl rfl ?_
      apply Exists.intro
      refine ⟨fun W hW => ?_, ?_⟩
      focus (go_simp; exact rfl)
      simp only [List.getElem_toArray, List.getElem_cons_succ, List.getElem_cons_zero, Act.put, List.setIfInBounds_toArray, List.set_cons_zero, List.set_cons_succ]
      refine lexH_yieldE rfl rfl ?_
      apply Exists.intro
      refine ⟨fun W hW => ?_, ?_⟩
      focus (go_simp; exact rfl)
      simp only [List.getElem_toArray, List.getElem_cons_succ, List.getElem_cons_zero, Act.put, List.setIfInBounds_toArray, List.set_cons_zero, List.set_cons_succ]
      refine lexH_yieldE rfl rfl ?_
      apply Exists.intro
      refine ⟨fun W hW => ?_, ?_⟩
      focus (go_simp; exact rfl)
      simp only [List.getElem_toArray, List.getElem_cons_succ, List.getElem_cons_zero, Act.put, List.setIfInBounds_toArray, List.set_cons_zero, List.set_cons_succ]
      refine lexH_load rfl rfl _ _ rfl rfl L1.out ?_
      simp only [List.getElem_toArray, List.getElem_cons_succ, List.getElem_cons_zero, Act.put, List.setIfInBounds_toArray, List.set_cons_zero, List.set_cons_succ]
      refine lexH_yieldE rfl rfl ?_
      apply Exists.intro
      refine ⟨fun W hW => ?_, ?_⟩
      focus (go_simp; exact rfl)
      simp only [List.getElem_toArray, List.getElem_cons_succ, List.getElem_cons_zero, Act.put, List.setIfInBounds_toArray, List.set_cons_zero, List.set_cons_succ]
      refine lexH_yieldE rfl rfl ?_
      apply Exists.intro
      refine ⟨fun W hW => ?_, ?_⟩
      focus (go_simp; exact rfl)
      simp only [List.getElem_toArray, List.getElem_cons_succ, List.getElem_cons_zero, Act.put, List.setIfInBounds_toArray, List.set_cons_zero, List.set_cons_succ]
      refine lexH_yieldE rfl rfl ?_
      apply Exists.intro
      refine ⟨fun W hW => ?_, ?_⟩
      focus (go_simp; exact rfl)
      simp only [List.getElem_toArray, List.getElem_cons_succ, List.getElem_cons_zero, Act.put, List.setIfInBounds_toArray, List.set_cons_zero, List.set_cons_succ]
      refine lexH_yieldE rfl rfl ?_
      apply Exists.intro
      refine ⟨fun W hW => ?_, ?_⟩
      focus (go_simp; exact rfl)
      simp only [List.getElem_toArray, List.getElem_cons_succ, List.getElem_cons_zero, Act.put, List.setIfInBounds_toArray, List.set_cons_zero, List.set_cons_succ]
      refine lexH_nil ?_
      go_wp2_with (fail)
      go_ret2
      exact ⟨rfl, HB.out⟩
    · have hz : S.place k = (0, 0) := by unfold Sl.place; rw [if_neg (by rw [has_no.2 (.inr (by omega))]; decide)]
      rw [hz]
      have h1I : (S.n : Int) ≤ (k : Int) := by omega
      have HB := Lib.hid (Below.refl w.heap.size w)
      clear hz I R hsz
      generalize S.n = n at *
      go_enter Try.func21, Try.ntmps21
      go_wp2_with (fail)
      go_ret2
      exact ⟨rfl, HB.out⟩
end
end Go.Proofs.Ytifiecfkcikdmaa
