/-
  clock: the landed Remove: slices.Index, slices.Delete, delete.
-/
import Derived.Test.YtndddfkebbeemaaCkMs
import Derived.Test.YtndddfkebbeemaaShlf
namespace Go.Proofs.Ytndddfkebbeemaa
open Go.RowKit Go.Shelf Go Go.Maps
attribute [local go_sem] Oper.semAt_some

theorem ck_erase : ∀ {Q : List Fr} {t : Nat} (_ : (namesL Q).Nodup) (ht : t < Q.length), Q.filter (fun y => decide (y.1 ≠ (Q[t]'ht).1)) = Q.eraseIdx t
  | x :: Q, 0, hn, ht => by
    rw [List.eraseIdx_cons_zero, List.getElem_cons_zero, List.filter_cons, if_neg (by simp)]
    refine List.filter_eq_self.2 fun y hy => decide_eq_true fun e => ?_
    have h := (List.nodup_cons.1 (show (x.1 :: namesL Q).Nodup from hn)).1
    exact h (by rw [← e]; exact List.mem_map_of_mem hy)
  | x :: Q, t + 1, hn, ht => by
    have hn2 := List.nodup_cons.1 (show (x.1 :: namesL Q).Nodup from hn)
    have ht2 : t < Q.length := Nat.lt_of_succ_lt_succ ht
    rw [List.eraseIdx_cons_succ, List.getElem_cons_succ, List.filter_cons, if_pos, ck_erase hn2.2 ht2]
    exact decide_eq_true fun e => hn2.1 (by rw [e]; exact List.mem_map_of_mem (List.getElem_mem ht2))
/-- Where a frame is, and what is left without it. -/
theorem ck_where {L : List Fr} (I : ClI L) {X : Nat} (h : hasL L (X : Int) = true) : ∃ i, i < L.length ∧ (namesL L)[i]? = some X ∧ (∀ j, j < i → (namesL L)[j]? ≠ some X) ∧ namesL (remL L (X : Int)) = (namesL L).take i ++ (namesL L).drop (i + 1) := by
  obtain ⟨z, hz, hz1⟩ := List.mem_map.1 (ck_mem.1 h)
  obtain ⟨i, hi, hzi⟩ := List.getElem_of_mem hz
  have hat : (namesL L)[i]? = some X := by
    unfold namesL
    rw [List.getElem?_map, List.getElem?_eq_getElem hi, hzi]
    simp [hz1]
  refine ⟨i, hi, hat, fun j hj e => ?_, ?_⟩
  · have hnd := I.nd
    have hji : j < (namesL L).length := by rw [namesL_len]; omega
    have hii : i < (namesL L).length := by rw [namesL_len]; omega
    rw [List.getElem?_eq_getElem hji] at e
    rw [List.getElem?_eq_getElem hii] at hat
    have h1 := List.pairwise_iff_getElem.1 hnd j i hji hii hj
    injection e with e
    injection hat with hat
    exact h1 (e.trans hat.symm)
  · have h1 : remL L (X : Int) = L.eraseIdx i := by
      unfold remL
      rw [if_pos h, Int.toNat_natCast, ← ck_erase I.nd hi, hzi]
      rw [show z.1 = X from hz1]
    rw [h1]
    unfold namesL
    rw [List.eraseIdx_eq_take_drop_succ, List.map_append, List.map_take, List.map_drop]
section
variable {w w' w1 : World} {p mb : Nat} {v : Value} {L : List Fr}
theorem idx_ck {N : List Nat} (h : WinAt w v N) (hN : N.length ≤ 1000) {X i : Nat} (hi : i < N.length) (hat : N[i]? = some X) (hne : ∀ j, j < i → N[j]? ≠ some X) :
    Calls Try.prog 27 #[v, .int .i64 (X : Int)] w fun e w' => e = .returned (.int .i64 (i : Int)) ∧ w' = w := by
  obtain ⟨g, o, c, rfl, h1, h2, hg, h3, h4⟩ := h.where (by omega)
  have h5 := Any.slices_Index_int Try.idxI g o N.length c (N.map (fun (x : Nat) => (x : Int))) (X : Int) w (by simp) (by omega) (fun j hj => by
    rw [List.length_map] at hj
    rw [h4 j _ (List.getElem?_eq_getElem hj)]
    simp [List.getD, hj])
  have hgd : ∀ j, j < N.length → (N.map (fun (x : Nat) => (x : Int))).getD j 0 = ((N[j]?.getD 0 : Nat) : Int) := fun j hj => by simp [List.getD, hj]
  have h6 := Lib.idxOf_hit (N.map (fun (x : Nat) => (x : Int))) N.length i (X : Int) hi (by simp) (by rw [hgd i hi, hat]; rfl) (fun j hj e => hne j hj (by
    rw [hgd j (by omega)] at e
    rw [List.getElem?_eq_getElem (by omega)] at e ⊢
    simp only [Option.getD_some] at e
    rw [show N[j] = X by omega]))
  rw [h6] at h5
  exact h5
theorem del_ck {N : List Nat} (h : WinAt w v N) (hN : N.length ≤ 1000) {i : Nat} (hi : i < N.length) :
    Calls Try.prog 28 #[v, .int .i64 (i : Int), .int .i64 ((i : Int) + 1)] w fun e w' => ∃ v', e = .returned v' ∧ WinAt w' v' (N.take i ++ N.drop (i + 1)) ∧ Only (fun k => v.ownBlock = some k) w w' ∧ v'.ownBlock = v.ownBlock := by
  obtain ⟨g, o, c, rfl, h1, h2, hg, h3, h4⟩ := h.where (by omega)
  have hcell : ∀ j, j < (N.map (fun (x : Nat) => (x : Int))).length → w.cell? ⟨g, o + j, none⟩ = some (.int .i64 ((N.map (fun (x : Nat) => (x : Int))).getD j 0)) := fun j hj => by
    rw [List.length_map] at hj
    rw [h4 j _ (List.getElem?_eq_getElem hj)]
    simp [List.getD, hj]
  have hH := Lib.holds_of_ints (n := N.length) (by simp) hcell (fun j hj => (h3 j (by omega)).2)
  rw [List.take_of_length_le (by simp)] at hH
  have h5 := Any.slices_Delete_int Try.delI g o c i (i + 1) (N.map (fun (x : Nat) => (x : Int))) w hH (by simp; omega) (by unfold maxLen at h2; omega) (by omega) (by simp; omega)
  rw [List.length_map, show i + 1 - i = 1 by omega] at h5
  refine h5.mono ?_
  rintro e w' ⟨rfl, q, rfl⟩
  have hlen : (N.take i ++ N.drop (i + 1)).length = N.length - 1 := by simp; omega
  rw [Lib.putRow_eq_setCells _ w g o _ _ q hH (by simp; omega)]
  obtain ⟨hw, ho⟩ := win_cut (q := q) h1 h2 hg h3 (N.take i ++ N.drop (i + 1)) (by omega) ((((N.map (fun (x : Nat) => (x : Int))).take i ++ (N.map (fun (x : Nat) => (x : Int))).drop (i + 1)) ++ List.replicate 1 0).map (Value.int .i64)) (by simp; omega) (fun j u hu => by
    have hj := (List.getElem?_eq_some_iff.1 hu).1
    rw [← List.map_take, ← List.map_drop, ← List.map_append, List.map_append, List.map_map, List.getElem?_append_left (by rw [List.length_map]; exact hj), List.getElem?_map, hu]
    rfl)
  rw [hlen] at hw
  exact ⟨_, rfl, hw, ho.mono (fun k hk => by rw [hk]; rfl), rfl⟩
set_option maxRecDepth 100000 in
set_option maxHeartbeats 4000000 in
theorem rem_ck (h : CkAt w p v (some mb) L) (I : ClI L) {x : Int} (hx : InZ x) : Calls Try.prog 13 #[.pointer (some ⟨p, 0, none⟩), .int .i64 x] w (CkT w p v mb L (noE L x) (remL L x)) := by
  have HA := Lib.hid h
  have HM := Lib.hid (missing_ck (d := some p) (m := true) ⟨v, some mb, h, rfl⟩)
  have HH := Lib.hid (has_ck (d := some p) (m := true) ⟨v, some mb, h, rfl⟩ hx)
  simp only [Option.map_some, Bool.not_true] at HM HH
  cases hh : hasL L x with
  | false =>
    rw [show noE L x = 7 from if_neg (by rw [hh]; decide), show remL L x = L from if_neg (by rw [hh]; decide)]
    rw [hh] at HH
    clear h hh
    go_enter Try.func13, Try.ntmps13
    go_wp2_with (fail)
    refine HM.out.mono ?_
    rintro e w1 ⟨rfl, rfl⟩
    go_wp2_with (fail)
    refine HH.out.mono ?_
    rintro e w1 ⟨rfl, hb⟩
    have HB := Lib.hid hb
    clear hb
    go_wp2_with (fail)
    go_ret
    exact CkT.same HA.out HB.out
  | true =>
    rw [show noE L x = 0 from if_pos hh]
    rw [hh] at HH
    have HST := Lib.hid (stM_rem hh)
    obtain ⟨X, rfl⟩ : ∃ X : Nat, x = X := ⟨x.toNat, by have := (of_decide_eq_true hh).1; omega⟩
    obtain ⟨i, hi, hat, hne, hrem⟩ := ck_where I hh
    have HI := Lib.hid I
    have HX := Lib.hid hx
    have HW := Lib.hid (And.intro hat (And.intro hne hrem))
    have hi2 := hi
    rw [← namesL_len L] at hi2
    have hlen : (namesL L).length ≤ 1000 := by rw [namesL_len]; exact I.len
    obtain ⟨a1, n1, e1⟩ := h.win.slice
    clear h hh I hx hat hne hrem
    go_enter Try.func13, Try.ntmps13
    go_wp2_with (fail)
    refine HM.out.mono ?_
    rintro e w1 ⟨rfl, rfl⟩
    go_wp2_with (fail)
    refine HH.out.mono ?_
    rintro e w1 ⟨rfl, hb⟩
    have HB := Lib.hid hb
    have HA1 := Lib.hid (HA.out.later hb)
    have c0 := HA1.out.c0
    have HIX := Lib.hid (idx_ck HA1.out.win hlen hi2 HW.out.1 HW.out.2.1)
    have HDE := Lib.hid (del_ck HA1.out.win hlen hi2)
    rw [e1] at c0 HIX HDE
    clear hb
    go_wp2_with (fail)
    refine HIX.out.mono ?_
    rintro e w2 ⟨rfl, rfl⟩
    go_wp2_with (fail)
    refine HDE.out.mono ?_
    rintro e w3 ⟨v3, rfl, hw3, ho3, hv3⟩
    rw [← e1] at ho3 hv3
    rw [← HW.out.2.2] at hw3
    obtain ⟨a3, n3, e3⟩ := hw3.slice
    have HMID := HA.out.mid HB.out ho3 v3
    have p0 := HMID.1.cell 0 (by decide)
    have p1 := HMID.1.cell 1 (by decide)
    have q0 := HMID.1.frozen 0
    rw [show ckV v (some mb) 0 = v from rfl, e1] at p0
    rw [show ckV v (some mb) 1 = .map (some mb) from rfl] at p1
    obtain ⟨w5, hr5, hm5, ho5⟩ := HMID.2.drop (KE := KI) (E := ES) Try.underlying46 (wf_inz HX.out) 0
    have HT := Lib.hid (HA.out.put (L' := remL L (X : Int)) HB.out ho3 hw3 (.inl hv3) (hm5.ext (fun y _ => HST.out y)) ho5)
    have HR5 := Lib.hid (show (Builtin.delete_ #[46, 3] 0 #[.map (some mb), .int .i64 (X : Int)]).run Try.prog (w3.setCell ⟨p, 0, none⟩ v3) = .ok (.tuple #[]) w5 from hr5)
    rw [e3] at HR5
    generalize (namesL (remL L (X : Int))).length = n4 at *
    subst e3
    clear hw3 ho3 hv3 HMID hr5 hm5 ho5 c0 HIX HDE HA1
    go_wp2_with (first | (refine wpList_delM rfl _ _ _ _ rfl rfl rfl HR5.out ?_) | fail)
    go_ret
    exact ⟨rfl, _, HT.out⟩
end
end Go.Proofs.Ytndddfkebbeemaa
