/-
  locks' document: Try.
-/
import Derived.Test.YtepapbecnadllaaLkRef
namespace Go.Proofs.Ytepapbecnadllaa
open Go.RowKit Go

/-- What a turning call of the document's leaves. -/
def RefTurn (w : World) (B r n : Nat) (M : List (Int × Nat)) (v : Value) (H' : Nat → Int) (w' : World) : Prop :=
  ∃ M' v', RefAt w' B r n M' v' ∧ Rel n H' M' ∧ M'.length ≤ M.length + 1 ∧ Only (fun k => k = r ∨ v.ownBlock = some k) w w' ∧ (∀ k, v'.ownBlock = some k → v.ownBlock = some k ∨ w.heap.size ≤ k ∨ ∃ A t x, w'.heap[k]? = some (.cells A t (0, 0)) ∧ A[0]? = some (.int .i64 x))
theorem RefTurn.same {w : World} {B r n : Nat} {M : List (Int × Nat)} {v : Value} {H : Nat → Int} (R : RefAt w B r n M v) (Q : Rel n H M) : RefTurn w B r n M v H w :=
  ⟨M, v, R, Q, by omega, Only.refl _ _, fun _ h => .inl h⟩
def RefTryAt (w : World) (B r n : Nat) (M : List (Int × Nat)) (v : Value) (H : Nat → Int) (who lock : Int) (e : Ending) (w' : World) : Prop :=
  e = .returned (.tuple #[.bool (tryB n H who lock), .int .i64 (tryE n H who lock)]) ∧ RefTurn w B r n M v (tryH n H who lock) w'
theorem RefTryAt.same {w : World} {B r n : Nat} {M : List (Int × Nat)} {v : Value} {H : Nat → Int} (R : RefAt w B r n M v) (Q : Rel n H M) {who lock : Int} (hb : tryB n H who lock = false) (u : Int) (he : tryE n H who lock = u) :
    RefTryAt w B r n M v H who lock (.returned (.tuple #[.bool false, .int .i64 u])) w := by
  unfold RefTryAt
  rw [try_no hb, hb, he]
  exact ⟨rfl, RefTurn.same R Q⟩
theorem not_askB {n : Nat} {who lock : Int} (h : ¬ askB n who lock = true) : who < 0 ∨ (0 ≤ who ∧ lock < 0) ∨ (0 ≤ who ∧ 0 ≤ lock ∧ (n : Int) ≤ lock) := by
  rw [askB_iff] at h; omega

section
variable {w : World} {B r n : Nat} {M : List (Int × Nat)} {v : Value} {H : Nat → Int}
theorem Rel.from_yes (Q : Rel n H M) {i l : Nat} {x : Int} {y : Nat} (h : M[i]? = some (x, y)) (hl : l ≤ y) : fromB H l x = true := by
  have hm := List.mem_of_getElem? h
  exact fromB_true y hl (by have := Q.lt hm; have := Q.n1; omega) ((Q.mem x y).1 hm).2
theorem Rel.from_no (Q : Rel n H M) {who : Int} {l : Nat} (hw : 0 ≤ who) (h : ∀ i, i < M.length → ∀ x (y : Nat), M[i]? = some (x, y) → ¬ (x = who ∧ (l : Int) ≤ y)) : fromB H l who = false :=
  fromB_false fun k h1 _ h3 => by
    obtain ⟨i, hi, e⟩ := List.mem_iff_getElem.1 ((Q.mem who k).2 ⟨hw, h3⟩)
    exact h i hi who k (by rw [List.getElem?_eq_getElem hi, e]) ⟨rfl, by omega⟩
theorem RefAt.set {w : World} {B r n : Nat} {M' : List (Int × Nat)} {v v' : Value} (hr : RowAt w r 2 (refV n v)) (hrB : r < B) (hB : B ≤ w.heap.size) (ho : w.ownsRow B 55 2 v' M'.length (twV M')) : RefAt (w.setCell ⟨r, 1, none⟩ v') B r n M' v' := by
  refine ⟨(hr.setCell 1 v').ext (fun i hi => ?_), owns_only ho (Only.setCell (S := Eq r) w ⟨r, 1, none⟩ rfl v') (fun k hk e => by have := (ho.lt k hk).1; omega), hrB, Nat.le_trans hB (by simp [World.setCell])⟩
  unfold updV refV
  rcases (show i = 0 ∨ i = 1 by omega) with rfl | rfl <;> simp
theorem twV_first : ∀ M : List (Int × Nat), 0 < M.length → ∃ x, (twV M)[0]? = some (.int .i64 x)
  | [], h => absurd h (Nat.lt_irrefl _)
  | p :: _, _ => ⟨p.1, rfl⟩
/-- The list laid anew. -/
theorem RefTurn.put {w w3 : World} {B r n : Nat} {M M' : List (Int × Nat)} {v v' : Value} {H' : Nat → Int} (R : RefAt w B r n M v) (hown : w3.ownsRow B 55 2 v' M'.length (twV M')) (ho : Only (fun k => v.ownBlock = some k) w w3) (Q : Rel n H' M')
    (hl : M'.length ≤ M.length + 1) (hp : 0 < M'.length) : RefTurn w B r n M v H' (w3.setCell ⟨r, 1, none⟩ v') := by
  have hr3 := R.row.only ho (fun e => by have := (R.own.lt r e).1; have := R.rB; omega)
  have hst := Only.setCell (S := Eq r) w3 ⟨r, 1, none⟩ rfl v'
  refine ⟨M', v', RefAt.set hr3 R.rB (Nat.le_trans R.bB ho.size) hown, Q, hl, (ho.mono (fun _ h => .inr h)).trans (hst.mono (fun _ h => .inl h.symm)), fun k hk => .inr (.inr ?_)⟩
  obtain ⟨a, cap, rfl, hr⟩ := owns_slice hown
  obtain ⟨g, rfl, hg, hb, A, t, hA, hx⟩ := hr hp
  obtain ⟨x, hx0⟩ := twV_first M' hp
  rw [hb] at hk
  cases hk
  refine ⟨A, t, x, ?_, by rw [hx 0 (by omega)]; exact hx0⟩
  rw [hst.block k (Array.getElem?_eq_some_iff.1 hA).1 (fun e => by have := R.rB; omega)]
  exact hA
theorem two_cells (x : Int) (l : Nat) : ∀ u, u ∈ (#[Value.int .i64 x, .int .i64 l] : Array Value).toList → u.oneCell' = true := by
  intro u h
  simp at h
  rcases h with rfl | rfl <;> rfl

set_option maxRecDepth 100000 in
set_option maxHeartbeats 1000000 in
theorem reftry_any (R : RefAt w B r n M v) (Q : Rel n H M) (hm : M.length ≤ 900) (who lock : Int) : Calls Try.prog 14 #[.pointer (some ⟨r, 0, none⟩), .int .i64 who, .int .i64 lock] w (RefTryAt w B r n M v H who lock) := by
  obtain ⟨i0, hi, hz0, hz1, hz2⟩ := info_parts infoTwo
  have c0 := R.c0
  have HRA := Lib.hid R
  have HQ := Lib.hid Q
  have hn := Q.n1
  by_cases ha : askB n who lock = true
  · obtain ⟨l, rfl, hl, hw⟩ := askB_nat ha
    have c1 := R.c1
    have et : tryB n H who l = (!fromB H l who && (H l == -1)) := by unfold tryB; rw [ha]; rfl
    have ee : tryE n H who l = if fromB H l who = true then 50 else 0 := if_pos ha
    have HET := Lib.hid et
    have HEE := Lib.hid ee
    obtain ⟨a, cap, hv, hr⟩ := R.slice
    have HR := Lib.hid hr
    have HV := Lib.hid hv
    rw [hv] at c1
    clear R Q hr hv et ee ha
    go_enter Try.func14, Try.ntmps14
    go_wp2_with (fail)
    clear c0
    go_loop [8] (fun i => ∃ k : Nat, k ≤ M.length ∧ i = .int .i64 k ∧ ∀ j, j < k → ∀ x (y : Nat), M[j]? = some (x, y) → ¬ (x = who ∧ (l : Int) ≤ y)) (fun i => M.length - (intOf i).toNat)
    case atStart => exact ⟨0, Nat.zero_le _, rfl, fun j h => absurd h (Nat.not_lt_zero _)⟩
    case round =>
      obtain ⟨k, hk, rfl, hn⟩ := hrel
      have HN := Lib.hid hn
      clear hn
      by_cases hlt : k < M.length
      · obtain ⟨g, x, y, rfl, hm2, cx, cl⟩ := HR.out k hlt
        have HM := Lib.hid hm2
        clear hm2
        by_cases hx : x = who
        · subst hx
          by_cases hy : (l : Int) ≤ y
          · have hf := HQ.out.from_yes HM.out (show l ≤ y by omega)
            have HT := Lib.hid (RefTryAt.same HRA.out HQ.out (show tryB n H x l = false by rw [HET.out, hf]; rfl) 50 (by rw [HEE.out, hf]; rfl))
            clear hf
            go_wp2_with (fail)
            go_ret2
            exact HT.out
          · have HM2 := Lib.hid (show ∀ j, j < k + 1 → ∀ z (q : Nat), M[j]? = some (z, q) → ¬ (z = x ∧ (l : Int) ≤ q) from fun j hj z q hq => by
              by_cases h : j < k
              · exact HN.out j h z q hq
              · obtain rfl : j = k := by omega
                have e := HM.out
                rw [hq] at e
                cases e
                exact fun h => hy h.2)
            have hy2 : (y : Int) < l := by omega
            clear hy
            go_wp2_with (fail)
            go_round
            case rel => exact ⟨k + 1, hlt, by go_num, HM2.out⟩
            case measure => simp [intOf]; omega
        · have HM2 := Lib.hid (show ∀ j, j < k + 1 → ∀ z (q : Nat), M[j]? = some (z, q) → ¬ (z = who ∧ (l : Int) ≤ q) from fun j hj z q hq => by
            by_cases h : j < k
            · exact HN.out j h z q hq
            · obtain rfl : j = k := by omega
              have e := HM.out
              rw [hq] at e
              cases e
              exact fun h => hx h.1)
          have ex : (x == who) = false := by simpa using hx
          clear hx
          go_wp2_with (fail)
          go_round
          case rel => exact ⟨k + 1, hlt, by go_num, HM2.out⟩
          case measure => simp [intOf]; omega
      · obtain rfl : k = M.length := by omega
        have hf := HQ.out.from_no hw HN.out
        have hhv : holdV n H l = H l := by unfold holdV hasB; rw [if_pos (by simp; omega), Int.toNat_natCast]
        have HHV := Lib.hid hhv
        have HF := Lib.hid hf
        clear hhv hf HN
        go_wp2_with (fail)
        refine (refholder_any HRA.out HQ.out hm l).mono ?_
        rintro e w' ⟨rfl, rfl⟩
        rw [HHV.out]
        by_cases hh : 0 ≤ H l
        · have HT := Lib.hid (RefTryAt.same HRA.out HQ.out (show tryB n H who l = false by rw [HET.out, HF.out]; simp; omega) 0 (by rw [HEE.out, HF.out]; rfl))
          have hge : (H l ≥ 0) := hh
          go_wp2_with (fail)
          go_ret2
          exact HT.out
        · have hlow := HQ.out.low l
          have hh1 : H l = -1 := by omega
          have HTB := Lib.hid (show tryB n H who l = true by rw [HET.out, HF.out, hh1]; rfl)
          have HTE := Lib.hid (show tryE n H who l = 0 by rw [HEE.out, HF.out]; rfl)
          have HRL := Lib.hid (HQ.out.add hw hl hh1)
          have HTH := Lib.hid (show tryH n H who l = updH H l who by unfold tryH; rw [HTB.out, if_pos rfl, Int.toNat_natCast])
          have hge : H l < 0 := by omega
          have HOW := Lib.hid HRA.out.own
          clear hh hlow hh1
          rw [HV.out] at HOW
          go_wp2_with (at_builtin; refine wpList_append_one w rfl _ _ 29 rfl B 55 i0 _ 2 16 Try.underlying29 hi hz0 hz1 hz2 rfl (by decide) _ _ _ #[.int .i64 who, .int .i64 l] HOW.out HRA.out.bB rfl rfl rfl (two_cells _ _) (Nat.le_trans hm (by decide)) (by decide) ?_)
          intro v' w3 hown ho _
          have hown2 : w3.ownsRow B 55 2 v' (M ++ [(who, l)]).length (twV (M ++ [(who, l)])) := by
            rw [List.length_append, twV_append]; exact hown
          have ho2 : Only (fun k => v.ownBlock = some k) w w3 := by rw [HV.out]; exact ho
          clear hown ho
          have hr3 := HRA.out.row.only ho2 (fun e => by have := (HRA.out.own.lt r e).1; have := HRA.out.rB; omega)
          have hRT := RefTurn.put HRA.out hown2 ho2 HRL.out (by simp) (by simp)
          have HRT := Lib.hid hRT
          have c3 : w3.cell? ⟨r, 1, none⟩ = some v := hr3.cell 1 (by decide)
          have f3 : w3.frozen? ⟨r, 1, none⟩ = false := hr3.frozen 1
          obtain ⟨a2, cap2, hv2, _⟩ := owns_slice hown2
          rw [show (M ++ [(who, l)]).length = M.length + 1 by simp] at hv2
          subst hv2
          have HT := Lib.hid (show RefTryAt w B r n M v H who l (.returned (.tuple #[.bool true, .int .i64 0])) (w3.setCell ⟨r, 1, none⟩ (.slice a2 (M.length + 1) cap2)) from by
            unfold RefTryAt
            rw [HTB.out, HTE.out, HTH.out]
            exact ⟨rfl, HRT.out⟩)
          clear hown2 ho2 hr3 hRT HRT HOW HRL HTB HTE HTH HF HHV c1 HR HV HRA
          go_wp2_with (fail)
          go_ret2
          exact HT.out
  · have HS := Lib.hid (RefTryAt.same R Q (show tryB n H who lock = false by unfold tryB; simp at ha; rw [ha]; rfl) 2 (if_neg ha))
    have hcs := not_askB ha
    clear R Q ha
    rcases hcs with h1 | ⟨h1, h2⟩ | ⟨h1, h2, h3⟩
    all_goals
      go_enter Try.func14, Try.ntmps14
      go_wp2_with (fail)
      go_ret2
      exact HS.out
end
end Go.Proofs.Ytepapbecnadllaa
