/-
  depot: Get, All, Flush of the landed depot.
-/
import Derived.Test.YtagnipkannogoaaDpPut
import Derived.Test.YtagnipkannogoaaDpLawTurns
namespace Go.Proofs.Ytagnipkannogoaa
open Go.RowKit Go
section
variable {w w' w1 : World} {D D' : DP} {N : Nat} {F F' : List Obs} {L Q Q' m : Obs} {v : Value}
theorem owns_cap {base n size : Nat} {T : TypeId} {a : Option Addr} {c k : Nat} {xs : List Value} (h : w.ownsRow base T size (.slice a k c) n xs) : k ≤ c := by
  obtain ⟨_, ⟨e, _⟩ | ⟨g, cap, cur, e, _, _, h1, _⟩⟩ := h
  · injection e with _ e2 e3
    omega
  · injection e with _ e2 e3
    omega
def GetP (w : World) (D : DP) (N : Nat) (F : List Obs) (Q : Obs) (e : Ending) (w' : World) : Prop :=
  ∃ v Y, e = .returned (.tuple #[v, .bool (dpGet F).1]) ∧ IsD Y D.p N (dpGet F).2.2 Q ∧ TTurn w (thD D N F.flatten Q) w' Y ∧
    w'.ownsRow 0 TO 2 v (dpGet F).2.1.length (recV encO (dpGet F).2.1) ∧ ∀ k, v.ownBlock = some k → (D.has k ∨ w.heap.size ≤ k) ∧ ¬ Y.has k
set_option maxRecDepth 100000 in
set_option maxHeartbeats 4000000 in
theorem get_no (h : DAt w D N ([] : List Obs).flatten Q) (hF : FOk N []) : Calls Try.prog 14 #[.pointer (some ⟨D.p, 0, none⟩)] w (GetP w D N [] Q) := by
  have HFU := Lib.hid (fulls_any h hF.1 hF.2.1 hF.2.2.1 hF.2.2.2)
  have HD := Lib.hid h
  have HF := Lib.hid hF
  clear h hF
  rw [show (([] : List Obs).length : Int) = 0 from rfl] at HFU
  go_enter Try.func14, Try.ntmps14
  go_wp2_with (fail)
  refine HFU.out.mono ?_
  rintro e w1 ⟨rfl, hb⟩
  have HQ := Lib.hid (show GetP w D N [] Q (.returned (.tuple #[.slice none 0 0, .bool false])) w1 from
    ⟨_, _, rfl, ⟨⟨_, rfl, rfl⟩, HF.out⟩, TTurn.of_below (X := thD D N _ Q) HD.out hb, World.ownsRow_nil _ _ _ _, fun k hk => by cases hk⟩)
  clear hb HD HF HFU
  go_wp2_with (fail)
  go_ret2
  exact HQ.out
set_option maxRecDepth 100000 in
set_option maxHeartbeats 8000000 in
theorem get_yes (h : DAt w D N (F ++ [m]).flatten Q) (hF : FOk N (F ++ [m])) : Calls Try.prog 14 #[.pointer (some ⟨D.p, 0, none⟩)] w (GetP w D N (F ++ [m]) Q) := by
  have HFU := Lib.hid (fulls_any h hF.1 hF.2.1 hF.2.2.1 hF.2.2.2)
  have HD := Lib.hid h
  have HF := Lib.hid hF
  have hml : m.length = N := hF.2.2.2 m (by simp)
  have HML := Lib.hid hml
  have HN := Lib.hid (show 1 ≤ N ∧ N ≤ 32 from ⟨hF.1, hF.2.1⟩)
  have HFL := Lib.hid (show F.length ≤ 64 by have := hF.2.2.1; rw [List.length_append] at this; omega)
  have h0 : (((F ++ [m]).length : Int) == 0) = false := by rw [beq_eq_false_iff_ne, List.length_append]; simp; omega
  have hle := flat_le hF.2.1 hF.2.2.1 hF.2.2.2
  have hfl : (F ++ [m]).flatten.length = F.flatten.length + N := by rw [flat_put, List.length_append, hml]
  have HLE := Lib.hid hle
  have HFLN := Lib.hid hfl
  have c0 := h.c0
  have c1 := h.c1
  obtain ⟨la, lc, hl⟩ := h.ls
  clear h hF hle hml
  obtain ⟨p, l, o⟩ := D
  dsimp only at c0 c1 hl HFU ⊢
  subst hl
  generalize (F ++ [m]).length = nn at h0 HFU
  rw [hfl] at c1
  obtain ⟨n, hn⟩ : ∃ n, F.flatten.length = n := ⟨_, rfl⟩
  rw [hn] at c1 hfl
  have hnw : wrap64 (n : Int) = (n : Int) := IntWalk.wrap64_in _ ⟨by omega, by have := HLE.out; omega⟩
  have HNW := Lib.hid hnw
  have hcap0 := owns_cap HD.out.lo
  rw [hfl] at hcap0
  clear hnw
  go_enter Try.func14, Try.ntmps14
  go_wp2_with (fail)
  refine HFU.out.mono ?_
  rintro e w1 ⟨rfl, hb⟩
  have HB := Lib.hid hb
  have c0' : w1.cell? ⟨p, 0, none⟩ = _ := (HD.out.later hb).c0
  have c1' : w1.cell? ⟨p, 1, none⟩ = _ := (HD.out.later hb).c1
  dsimp only at c0' c1'
  rw [HFLN.out, hn] at c1'
  clear hb c0 c1 HFU
  go_wp2_with (fail)
  have HK := Lib.hid (show n ≤ n + N from Nat.le_add_right _ _)
  have HK2 := Lib.hid (show n ≤ lc by omega)
  have S1 := Lib.hid (show ∀ V : World, (Instr.sliceAt 30 (.slice la (n + N) lc) none (some (.int .i64 n)) none).run Try.prog V = .ok (.slice la n lc) V from fun V => run_sub_toN (P := Try.prog) (t := 30) (e := TO) (s := 2) Try.underlying30 (fun _ => by kernel_rfl) _ _ _ n HK2.out V)
  obtain ⟨vd, hvd⟩ : ∃ vd, Value.slice (if lc = n then la else la.map fun x => x.add (n * 2)) (n + N - n) (lc - n) = vd := ⟨_, rfl⟩
  have S2 := Lib.hid (show ∀ V : World, (Instr.sliceAt 30 (.slice la (n + N) lc) (some (.int .i64 n)) none none).run Try.prog V = .ok vd V from fun V => hvd ▸ run_sub_fromN (P := Try.prog) (t := 30) (e := TO) (s := 2) Try.underlying30 (fun _ => by kernel_rfl) _ _ _ n HK.out V)
  have HSD := Lib.hid (show ∀ V, Below w1.heap.size w1 V → SrcO V vd m from fun V hV => by
    have h1 := SrcO.of_owns (HD.out.later (HB.out.trans (hV.mono HB.out.size))).lo
    have h2 := h1.drop (k := n) (by rw [hfl]; exact HK.out) (by rw [hfl]; exact hcap0)
    rw [hfl, hvd, flat_put, List.drop_append, List.drop_of_length_le (Nat.le_of_eq hn), hn, Nat.sub_self, List.drop_zero, List.nil_append] at h2
    exact h2)
  have HMP := Lib.hid (show 0 < m.length ∧ m.length ≤ 1000 by have := HML.out; have := HN.out; omega)
  clear hvd hcap0
  go_quiet (fail)
  rw [HNW.out]
  have HB2 := Lib.hid (HB.out.trans ((below_drewN (Below.refl _ _) nq).mono HB.out.size))
  have HSD2 := Lib.hid (HSD.out _ (below_drewN (Below.refl _ _) nq))
  have d1 : (w1.drewN nq).cell? ⟨p, 1, none⟩ = some (Value.slice la (n + N) lc) := c1'
  clear c0' c1' HSD HB
  generalize w1.drewN nq = w2 at *
  go_wp2_with (first
    | (refine wpList_slice_run rfl 30 _ _ _ _ rfl _ (S1.out _) ?_)
    | (refine wpList_slice_run rfl 30 _ _ _ _ rfl _ (S2.out _) ?_) | fail)
  refine (clone_any HSD2.out HMP.out.1 HMP.out.2).mono ?_
  rintro e w3 ⟨v, rfl, hown, hb⟩
  have e1 : w3.cell? ⟨p, 1, none⟩ = _ := (HD.out.later (HB2.out.trans (hb.mono HB2.out.size))).c1
  have f1 : w3.frozen? ⟨p, 1, none⟩ = _ := (HD.out.later (HB2.out.trans (hb.mono HB2.out.size))).fz 1
  dsimp only at e1 f1
  rw [HFLN.out, hn] at e1
  obtain ⟨va, vc, hv⟩ := owns_len hown
  have HQ := Lib.hid (show GetP w ⟨p, .slice la (F ++ [m]).flatten.length lc, o⟩ N (F ++ [m]) Q (.returned (.tuple #[v, .bool true])) (w3.setCell ⟨p, 1, none⟩ (.slice la n lc)) from by
    have hD3 := HD.out.later (HB2.out.trans (hb.mono HB2.out.size))
    have hcut := owns_takeO (L := (F ++ [m]).flatten) (k := n) hD3.lo (by rw [hfl]; exact HK.out)
    have e9 : (F ++ [m]).flatten.take n = F.flatten := by
      rw [flat_put, ← hn, List.take_left]
    rw [e9] at hcut
    have hT := hD3.setL (w1 := w3) (S := fun _ => False) (Only.refl _ _) (fun _ h => h.elim) hcut (fun k hk => .inl (by rw [← hk]; cases la <;> rfl))
    have hnv : ∀ k, v.ownBlock = some k → w.heap.size ≤ k := fun k hk => Nat.le_trans HB2.out.size (hown.lt k hk).1
    unfold GetP
    rw [dpGet_snoc]
    refine ⟨v, thD ⟨p, .slice la n lc, o⟩ N F.flatten Q, rfl, ⟨⟨⟨p, .slice la n lc, o⟩, rfl, rfl⟩, HN.out.1, HN.out.2, HFL.out, fun x hx => HF.out.2.2.2 x (List.mem_append_left _ hx)⟩, (TTurn.of_below (X := thD _ N _ Q) HD.out (HB2.out.trans (hb.mono HB2.out.size))).trans hT, ?_, fun k hk => ⟨.inr (hnv k hk), fun h => ?_⟩⟩
    · refine owns_only (owns_base hown (fun _ _ => Nat.zero_le _)) (Only.setCell (S := Eq p) _ ⟨p, 1, none⟩ rfl _) (fun k hk e => ?_)
      have h1 := hnv k hk
      have h2 := HD.out.lt (k := p) (.inl rfl)
      omega
    · have h1 := hnv k hk
      have h2 : k < w.heap.size := by
        refine HD.out.lt (k := k) ?_
        rcases h with h | h | h
        · exact .inl h
        · refine .inr (.inl ?_)
          rw [← h]
          cases la <;> rfl
        · exact .inr (.inr h)
      omega)
  subst hv
  clear hown hb HD HF HN HB2 HSD2 HFL HLE HFLN
  go_wp2_with (first
    | (refine wpList_slice_run rfl 30 _ _ _ _ rfl _ (S1.out _) ?_) | fail)
  go_ret2
  exact HQ.out
end
end Go.Proofs.Ytagnipkannogoaa
