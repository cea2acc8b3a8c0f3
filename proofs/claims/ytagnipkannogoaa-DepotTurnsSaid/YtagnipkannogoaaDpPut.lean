/-
  depot: Put of the landed depot, and New.
-/
import Derived.Test.YtagnipkannogoaaDpAt
import Derived.Test.YtagnipkannogoaaDpCat
namespace Go.Proofs.Ytagnipkannogoaa
open Go.RowKit Go
section
variable {w w' w1 : World} {D D' : DP} {N : Nat} {F F' : List Obs} {L Q Q' m : Obs} {v : Value}
def PutP (w : World) (D : DP) (N : Nat) (F : List Obs) (Q m : Obs) (e : Ending) (w' : World) : Prop :=
  ∃ Y, e = .returned (.int .i64 (dpPut N m F).1) ∧ IsD Y D.p N (dpPut N m F).2 Q ∧ TTurn w (thD D N F.flatten Q) w' Y
/-- The pure facts. -/
def FOk (N : Nat) (F : List Obs) : Prop := 1 ≤ N ∧ N ≤ 32 ∧ F.length ≤ 64 ∧ ∀ m ∈ F, m.length = N
theorem flat_put : (F ++ [m]).flatten = F.flatten ++ m := by simp
set_option maxRecDepth 100000 in
set_option maxHeartbeats 4000000 in
theorem put_any (h : DAt w D N F.flatten Q) (hF : FOk N F) (hs : SrcO w v m) : Calls Try.prog 12 #[.pointer (some ⟨D.p, 0, none⟩), v] w (PutP w D N F Q m) := by
  have HM := Lib.hid (missing_any h hF.1)
  have HF := Lib.hid hF
  have HD := Lib.hid h
  have HS := Lib.hid hs
  have c0 := h.c0
  have HB := Lib.hid (Below.refl w.heap.size w)
  obtain ⟨a, c, rfl, hsrc⟩ := hs
  by_cases hl : m.length = N
  · have hne : ((N : Int) == (N : Int)) = true := by simp
    have HFU := Lib.hid (fulls_any h hF.1 hF.2.1 hF.2.2.1 hF.2.2.2)
    obtain ⟨ad, rfl, hsrc⟩ := hsrc (by have := hF.1; omega)
    rw [hl] at HS ⊢
    clear h hsrc
    by_cases hf : F.length < 64
    · have h64 : ((F.length : Int) == 64) = false := by rw [beq_eq_false_iff_ne]; omega
      have HP := Lib.hid (dpPut_ok hl hf)
      have HL := Lib.hid hl
      have HN := Lib.hid (show 1 ≤ N ∧ N ≤ 32 from ⟨hF.1, hF.2.1⟩)
      have HFL := Lib.hid hf
      have HLE := Lib.hid (flat_le hF.2.1 hF.2.2.1 hF.2.2.2)
      clear hF hl hf
      obtain ⟨p, l, o⟩ := D
      dsimp only at c0 HM HFU ⊢
      go_enter Try.func12, Try.ntmps12
      go_wp2_with (fail)
      refine HM.out.mono ?_
      rintro e w1 ⟨rfl, rfl⟩
      go_wp2_with (fail)
      refine HFU.out.mono ?_
      rintro e w1 ⟨rfl, hb⟩
      have HD1 := Lib.hid (HD.out.later hb)
      have HB1 := Lib.hid hb
      have HS1 := Lib.hid (HS.out.later hb)
      have c1 := HD1.out.c1
      have f1 := HD1.out.fz 1
      have HO := Lib.hid HD1.out.lo
      obtain ⟨la, lc, hl⟩ := HD1.out.ls
      dsimp only at c1 f1 HO hl
      subst hl
      obtain ⟨a9, c9, e9, hsr⟩ := HS1.out
      injection e9 with e9 e8 e7
      subst e9
      obtain ⟨ad9, e9, hsr⟩ := hsr (by have := HN.out; have := HL.out; omega)
      injection e9 with e9
      subst e9
      have HSR := Lib.hid hsr
      obtain ⟨i0, hi, hz0, hz1, hz2⟩ := info_parts infoObj
      clear hsr c0 HFU HM HS HB hb e8 e7 HS1
      have FI : ∀ v2 w2, w2.ownsRow 0 TO 2 v2 (F.flatten.length + N) (recV encO F.flatten ++ recV encO m) → Only (fun k => (Value.slice la F.flatten.length lc).ownBlock = some k) w1 w2 → (v2.ownBlock = (Value.slice la F.flatten.length lc).ownBlock ∨ ∀ k, v2.ownBlock = some k → w1.heap.size ≤ k) →
          Hid (w2.cell? ⟨p, 1, none⟩ = some (.slice la F.flatten.length lc) ∧ w2.frozen? ⟨p, 1, none⟩ = false ∧ (∃ a n c, v2 = .slice a n c) ∧ PutP w ⟨p, .slice la F.flatten.length lc, o⟩ N F Q m (.returned (.int .i64 0)) (w2.setCell ⟨p, 1, none⟩ v2)) := by
        intro v2 w2 hown ho hwh
        have hown9 : w2.ownsRow 0 TO 2 v2 (F ++ [m]).flatten.length (recV encO (F ++ [m]).flatten) := by
          rw [flat_put, List.length_append, recV_append, HL.out]
          exact hown
        have hT := HD1.out.setL ho (fun k hk => hk) hown9 (fun k hk => by
          rcases hwh with e | e
          · exact .inl (by rw [← e]; exact hk)
          · exact .inr (e k hk))
        have hR := HD1.out.row.only ho (fun e => HD1.out.pl e)
        obtain ⟨a, c, e⟩ := owns_len hown9
        refine ⟨hR.cell 1 (by decide), hR.frozen 1, ⟨a, _, c, e⟩, ?_⟩
        unfold PutP
        rw [HP.out]
        refine ⟨thD ⟨p, v2, o⟩ N (F ++ [m]).flatten Q, rfl, ⟨⟨⟨p, v2, o⟩, rfl, rfl⟩, HF.out.1, HF.out.2.1, by rw [List.length_append, List.length_singleton]; have := HFL.out; omega, fun x hx => ?_⟩, (TTurn.of_below (X := thD _ N F.flatten Q) HD.out HB1.out).trans hT⟩
        rcases List.mem_append.1 hx with h | h
        · exact HF.out.2.2.2 x h
        · rw [List.mem_singleton] at h
          subst h
          exact HL.out
      have FI := Lib.hid FI
      have hnn : 0 < N := by have := HN.out; omega
      clear HD HP HF HFL HB1 HD1
      have HMX := Lib.hid (show F.flatten.length + N ≤ maxLen ∧ (F.flatten.length + N) * 16 ≤ 140737488355328 from by have := HLE.out; have := HN.out; unfold maxLen; omega)
      have HML := Lib.hid (show (recV encO m).length = N * 2 by rw [recV_len encO_len, HL.out])
      clear HLE
      generalize F.flatten.length = n at *
      go_wp2_with (first | (at_builtin; refine wpList_append_wat _ rfl _ _ 30 rfl 0 38 i0 _ 2 16 Try.underlying30 hi hz0 hz1 hz2 rfl (by decide) _ _ _ HO.out (Nat.zero_le _) rfl _ _ _ hnn (recV encO m) rfl HML.out HSR.out (recV_one encO_one m) HMX.out.1 HMX.out.2 ?_; intro v2 w2 hown ho hwh; have HQ := FI.out v2 w2 hown ho hwh; clear hown ho hwh; obtain ⟨d1, g1, hv2, hq⟩ := HQ.out; obtain ⟨va, vn, vc, hv2⟩ := hv2; have HQ := Lib.hid hq; subst hv2; clear hq) | fail)
      go_ret
      exact HQ.out
    · have h64 : ((F.length : Int) == 64) = true := by rw [beq_iff_eq]; have := hF.2.2.1; omega
      have HP := Lib.hid (dpPut_full hl hf)
      clear hF hl hf
      obtain ⟨p, l, o⟩ := D
      dsimp only at c0 HM HFU ⊢
      go_enter Try.func12, Try.ntmps12
      go_wp2_with (fail)
      refine HM.out.mono ?_
      rintro e w1 ⟨rfl, rfl⟩
      go_wp2_with (fail)
      refine HFU.out.mono ?_
      rintro e w1 ⟨rfl, hb⟩
      have HQ := Lib.hid (show PutP w ⟨p, l, o⟩ N F Q m (.returned (.int .i64 9)) w1 from by
        unfold PutP
        rw [HP.out]
        exact ⟨_, rfl, ⟨⟨_, rfl, rfl⟩, HF.out⟩, TTurn.of_below (X := thD _ N F.flatten Q) HD.out hb⟩)
      clear hb HD HF HP HM HFU HS HB
      go_wp2_with (fail)
      go_ret
      exact HQ.out
  · have hne : ((m.length : Int) == (N : Int)) = false := by rw [beq_eq_false_iff_ne]; omega
    have HQ := Lib.hid (show PutP w D N F Q m (.returned (.int .i64 2)) w from by
      unfold PutP dpPut
      rw [if_neg hl]
      exact ⟨_, rfl, ⟨⟨_, rfl, rfl⟩, HF.out⟩, TTurn.of_below (X := thD _ N F.flatten Q) HD.out HB.out⟩)
    clear h hsrc hF hl HS HD HF HB
    obtain ⟨p, l, o⟩ := D
    dsimp only at c0 HM ⊢
    go_enter Try.func12, Try.ntmps12
    go_wp2_with (fail)
    refine HM.out.mono ?_
    rintro e w1 ⟨rfl, rfl⟩
    go_wp2_with (fail)
    go_ret
    exact HQ.out
/-- New. -/
theorem new_at (w : World) (n : Int) (t : TypeId) : TTurn w Thg.no (w.alloc (.cells #[.int .i64 (clN n), .slice none 0 0, .slice none 0 0] t)) (thD ⟨w.heap.size, .slice none 0 0, .slice none 0 0⟩ (clN n) [] []) := by
  have n0 : ∀ k, (Value.slice none 0 0).ownBlock ≠ some k := fun k e => by cases e
  refine ⟨⟨RowAt.new w _ _ _ _ fun i hi => ?_, World.ownsRow_nil _ _ _ _, World.ownsRow_nil _ _ _ _, n0 _, n0 _, fun k _ => n0 k⟩, Only.of_below ((Below.refl _ _).alloc (Nat.le_refl _) _), fun k hk => .inr ?_⟩
  · rcases (show i = 0 ∨ i = 1 ∨ i = 2 by omega) with rfl | rfl | rfl <;> rfl
  · rcases hk with rfl | hk | hk
    · exact Nat.le_refl _
    · exact absurd hk (n0 k)
    · exact absurd hk (n0 k)
def NewP (w : World) (n : Int) (e : Ending) (w' : World) : Prop := ∃ d Y, e = .returned (.pointer (some ⟨d, 0, none⟩)) ∧ IsD Y d (clN n) [] [] ∧ TTurn w Thg.no w' Y
set_option maxRecDepth 100000 in
set_option maxHeartbeats 2000000 in
theorem new_any (n : Int) (w : World) : Calls Try.prog 9 #[.int .i64 n] w (NewP w n) := by
  have HT := Lib.hid (show NewP w n (.returned (.pointer (some ⟨w.heap.size, 0, none⟩))) (w.alloc (.cells #[.int .i64 (clN n), .slice none 0 0, .slice none 0 0] 49)) from
    ⟨_, _, rfl, ⟨⟨_, rfl, rfl⟩, (clN_pos n).1, (clN_pos n).2, Nat.zero_le _, fun m hm => absurd hm List.not_mem_nil⟩, new_at w n _⟩)
  rcases (show n < 1 ∨ (¬ n < 1 ∧ 32 < n) ∨ (¬ n < 1 ∧ ¬ 32 < n) by omega) with h | ⟨h, h2⟩ | ⟨h, h2⟩
  · rw [show ((clN n : Nat) : Int) = 1 by unfold clN; omega] at HT
    have e1 : max n 1 = 1 := by omega
    go_enter Try.func9, Try.ntmps9
    go_wp2_with (fail)
    go_ret
    exact HT.out
  · rw [show ((clN n : Nat) : Int) = 32 by unfold clN; omega] at HT
    have e1 : max n 1 = n := by omega
    have e2 : min n 32 = 32 := by omega
    go_enter Try.func9, Try.ntmps9
    go_wp2_with (fail)
    go_ret
    exact HT.out
  · rw [show ((clN n : Nat) : Int) = n by unfold clN; omega] at HT
    have e1 : max n 1 = n := by omega
    have e2 : min n 32 = n := by omega
    go_enter Try.func9, Try.ntmps9
    go_wp2_with (fail)
    go_ret
    exact HT.out
end
end Go.Proofs.Ytagnipkannogoaa
