/-
  magazine: Put of the landed pair, and of the document's.
-/
import Derived.Test.YtaadjgnfihkaeaaMgGet
import Derived.Test.YtaadjgnfihkaeaaLexP
import Derived.Deep.QuietTactic
namespace Go.Proofs.Ytaadjgnfihkaeaa
open Go.RowKit Go
section
variable {P : Program} {ops : Array Oper} {Q : Exit → Act → World → Prop} {K : Act → World → Prop} {a : Act}
theorem wp_append_whr (w : World) {o : Oper} (s x : Operand) (t : TypeId)
    (ho : o.op = .call { callee := .builtin .append, args := #[s, x], argTypes := #[t, t] })
    (base : Nat) (e : TypeId) (ti : TypeInfo) (z : Value) (size bytes : Nat) (ht : P.underlying t = some (.slice e)) (hti : P.info? e = some ti) (hz : ti.zero = some z)
    (hsize : ti.size = size) (hby : ti.bytes = bytes) (hzs : z.cells.size = size) (hsz : 0 < size)
    (v : Value) (n : Nat) (xs : List Value) (hown : w.ownsRow base e size v n xs) (hbase : base ≤ w.heap.size)
    (ad : Addr) (c : Nat) (news : List Value) (hs : a.eval s = v) (hx : a.eval x = .slice (some ad) 1 c) (hl : news.length = 1 * size) (hsrc : ∀ j u, news[j]? = some u → w.cell? (ad.add j) = some u) (h1 : ∀ u ∈ news, u.oneCell' = true)
    (hn : n ≤ 1000) (hb : bytes ≤ 1000)
    (h : ∀ v' w', w'.ownsRow base e size v' (n + 1) (xs ++ news) → Only (fun k => v.ownBlock = some k) w w' → (v'.ownBlock = v.ownBlock ∨ ∀ k, v'.ownBlock = some k → w.heap.size ≤ k) → K (a.put o.dst v') w') : o.wp P a w K Q := by
  obtain ⟨v', w', hr, h2, h3, h4⟩ := run_append_own_src (P := P) w base t o.type e ti z size bytes ht hti hz hsize hby hzs hsz v n xs hown (some ad) 1 c news hl (fun _ => ⟨ad, rfl, hsrc⟩) h1 (by unfold maxLen; omega) (Nat.le_trans (Nat.mul_le_mul (show n + 1 ≤ 1001 by omega) hb) (by decide)) hbase
  have hwh := append_where (P := P) base t o.type e ti z size bytes ht hti hz hsize hby v n xs hown ad c news hl hsrc h1 hn hb hr
  unfold Oper.wp execOp
  simp only [ho, resolve, invoke, builtin, Sem.run_bind, Sem.run_pure, Result.andThen_ok, List.map_toArray, List.map_cons, List.map_nil, hs, hx, hr]
  exact h v' w' h2 (Only.of_grown h3) hwh
end
theorem obj_src {w : World} {b : Nat} {x y : Int} (R : RowAt w b 2 (obV x y)) : ∀ (j : Nat) (u : Value), (encO (x, y))[j]? = some u → w.cell? ((⟨b, 0, none⟩ : Addr).add j) = some u := fun j u hj => by
  rw [Addr.add_lit, Nat.zero_add]
  match j, hj with
  | 0, hj => simp [encO] at hj; subst hj; exact R.cell 0 (by decide)
  | 1, hj => simp [encO] at hj; subst hj; exact R.cell 1 (by decide)
section
variable {w w' w1 w2 : World} {M M1 M2 : MP} {N X : Nat} {L O L' O' : Obs} {x y : Int}
def PutP (w : World) (M : MP) (N : Nat) (x : Ob) (L O : Obs) (e : Ending) (w' : World) : Prop :=
  ∃ M', e = .returned (.bool (putM N x L O).1) ∧ MAt w' M' N (putM N x L O).2.1 (putM N x L O).2.2 ∧ MTurn w M w' M'
theorem PutP.of (HT : MTurn w M w1 M1) (HM : MAt w2 M2 N L' O') (HT2 : MTurn w1 M1 w2 M2) {x : Ob} {b : Bool} (hg : putM N x L O = (b, L', O')) : PutP w M N x L O (.returned (.bool b)) w2 := by
  unfold PutP
  rw [hg]
  exact ⟨M2, rfl, HM, HT.trans HT2⟩
theorem putM_full {x : Ob} (h1 : L.length = N) (h2 : O.length = N) : putM N x L O = (false, L, O) := by
  have h : chP N L O = (L, O) := by
    unfold chP
    rw [if_neg (by omega)]
  unfold putM
  rw [h]
  dsimp only
  rw [if_pos h1]
theorem putM_chg {x : Ob} (h1 : L.length = N) (h2 : O.length < N) : putM N x L O = (true, O ++ [x], L) := by
  have h : chP N L O = (O, L) := by
    unfold chP
    rw [if_pos ⟨h1, h2⟩]
  unfold putM
  rw [h]
  dsimp only
  rw [if_neg (by omega)]
theorem putM_app {x : Ob} (h1 : L.length < N) : putM N x L O = (true, L ++ [x], O) := by
  have h : chP N L O = (L, O) := by
    unfold chP
    rw [if_neg (by omega)]
  unfold putM
  rw [h]
  dsimp only
  rw [if_neg (by omega)]
/-- What the region that appends wants. -/
def PutS (p X : Nat) (l : Value) (x y : Int) (V : World) : Prop := V.cell? ⟨p, 1, none⟩ = some l ∧ RowAt V X 2 (obV x y)
theorem PutS.only {S : Nat → Prop} {p : Nat} {l : Value} (h : PutS p X l x y w) (ho : Only S w w') (h1 : ¬ S p) (h2 : ¬ S X) : PutS p X l x y w' := ⟨ho.cell h1 h.1, h.2.only ho h2⟩
theorem lens (h : MAt w M N L O) : w.cell? ⟨M.p, 0, none⟩ = some (.int .i64 N) ∧ (∃ a c, w.cell? ⟨M.p, 1, none⟩ = some (.slice a L.length c)) ∧ ∃ a c, w.cell? ⟨M.p, 2, none⟩ = some (.slice a O.length c) := by
  obtain ⟨a, c, e⟩ := h.ls
  obtain ⟨a2, c2, e2⟩ := h.os
  exact ⟨h.c0, ⟨a, c, by rw [h.c1, e]⟩, ⟨a2, c2, by rw [h.c2, e2]⟩⟩
set_option maxRecDepth 100000 in
set_option maxHeartbeats 8000000 in
theorem put_any (h : MAt w M N L O) (x y : Int) : Calls Try.prog 12 #[.pointer (some ⟨M.p, 0, none⟩), .agg #[.int .i64 x, .int .i64 y]] w (PutP w M N (x, y) L O) := by
  obtain ⟨i0, hi, hz0, hz1, hz2⟩ := info_parts infoObj
  have hba : Below w.heap.size w (w.alloc (.cells #[.int .i64 x, .int .i64 y] 33)) := (Below.refl w.heap.size w).alloc (Nat.le_refl _) _
  have HM := Lib.hid (h.later hba)
  have HT := Lib.hid (MTurn.of_below (M := M) hba)
  have HX := Lib.hid (obj_row w x y)
  have HN := Lib.hid (show ¬ M.has w.heap.size from fun e => by have := h.lt e; omega)
  have h32 : N ≤ 32 := h.n2
  have hlN := h.hl
  have hoN := h.ho
  clear h hba
  obtain ⟨p, l, o⟩ := M
  go_enter Try.func12, Try.ntmps12
  go_wp2_with (fail)
  generalize w.alloc (.cells #[.int .i64 x, .int .i64 y] 33) = w1 at *
  generalize w.heap.size = X at HX HN ⊢
  refine (missing_any HM.out).mono ?_
  rintro e w' ⟨rfl, rfl⟩
  go_wp2_with (fail)
  refine (full0_any HM.out).mono ?_
  rintro e wA ⟨rfl, hb⟩
  have HMA := Lib.hid (HM.out.later hb)
  have HTA := Lib.hid (HT.out.later hb)
  have HXA := Lib.hid (HX.out.later hb)
  clear hb HM HT HX
  by_cases hL : L.length = N
  · have eL := len_t hL
    by_cases hO : O.length = N
    · have eO := len_t hO
      have HG := Lib.hid (putM_full (x := (x, y)) hL hO)
      clear hL hO hlN hoN
      go_wp2_with (fail)
      refine (full1_any HMA.out).mono ?_
      rintro e wB ⟨rfl, hb⟩
      have HMB := Lib.hid (HMA.out.later hb)
      have HTB := Lib.hid (HTA.out.later hb)
      clear hb HMA HTA HXA
      go_wp2_with (fail)
      refine (full0_any HMB.out).mono ?_
      rintro e wC ⟨rfl, hb⟩
      have HMC := Lib.hid (HMB.out.later hb)
      have HTC := Lib.hid (HTB.out.later hb)
      clear hb HMB HTB
      have HF := Lib.hid (PutP.of HTC.out HMC.out (MTurn.refl _ _) HG.out)
      clear HMC HTC HG
      go_wp2_with (fail)
      go_ret
      exact HF.out
    · have eO := len_f hO
      have HLT := Lib.hid (show O.length < N by omega)
      have HG := Lib.hid (putM_chg (x := (x, y)) hL HLT.out)
      clear hL hO hlN hoN
      go_wp2_with (fail)
      refine (full1_any HMA.out).mono ?_
      rintro e wB ⟨rfl, hb⟩
      have HMB := Lib.hid (HMA.out.later hb)
      have HTB := Lib.hid (HTA.out.later hb)
      have HXB := Lib.hid (HXA.out.later hb)
      clear hb HMA HTA HXA
      go_wp2_with (fail)
      refine (change_any HMB.out).mono ?_
      rintro e w2 ⟨M2, rfl, hM2, hT2⟩
      have HP := Lib.hid hT2.pp
      have HN2 := Lib.hid (hT2.off1 HN.out HXB.out.lt)
      have HX2 := Lib.hid (HXB.out.only hT2.only HN.out)
      have HT2 := Lib.hid (HTB.out.trans hT2)
      have HM2 := Lib.hid hM2
      obtain ⟨p2, l2, o2⟩ := M2
      have hpp : p2 = p := HP.out
      subst hpp
      clear hM2 hT2 HMB HTB HXB HN HP eL
      go_wp2_with (fail)
      refine (full0_any HM2.out).mono ?_
      rintro e wC ⟨rfl, hb⟩
      have HMC := Lib.hid (HM2.out.later hb)
      have HTC := Lib.hid (HT2.out.later hb)
      have HXC := Lib.hid (HX2.out.later hb)
      clear hb HM2 HT2 HX2
      obtain ⟨la, lc, hl⟩ := HMC.out.ls
      have HPL := Lib.hid HMC.out.pl
      have f1 := HMC.out.fz 1
      dsimp only at hl HPL f1
      subst hl
      have HS := Lib.hid (show PutS p2 X (.slice la O.length lc) x y wC from ⟨HMC.out.c1, HXC.out⟩)
      have L1 := Lib.hid (show ∀ V, PutS p2 X (.slice la O.length lc) x y V → (loadVar 29 ⟨p2, 1, none⟩).run Try.prog V = .ok (.slice la O.length lc) V from fun V hV => run_loadVar_cell (fun _ => by kernel_rfl) hV.1)
      have L2 := Lib.hid (show ∀ V, PutS p2 X (.slice la O.length lc) x y V → (loadVar 33 ⟨X, 0, none⟩).run Try.prog V = .ok (.agg #[.int .i64 x, .int .i64 y]) V from fun V hV => load_obj (hV.2.cell 0 (by decide)) (hV.2.cell 1 (by decide)))
      go_wp2_with (fail)
      refine wp_region_lexF (PutS p2 X (.slice la O.length lc) x y) [(0, false), (1, false), (2, false), (3, false), (4, false), (5, false), (6, false), (9, false), (10, false), (7, true), (8, true), (11, false)] 12 (by kernel_rfl) (by kernel_rfl) rfl (by kernel_rfl) (HS.out.only (Only.drewN (fun _ => False) wC 1) (fun h => h) (fun h => h)) ?_
      intro W0 hW0 hK0
      have HM0 := Lib.hid (show MAt W0 _ N O _ by rw [hW0]; exact HMC.out.later (below_drewN (Below.refl _ _) 1))
      have HT0 := Lib.hid (show MTurn w _ W0 _ by rw [hW0]; exact HTC.out.later (below_drewN (Below.refl _ _) 1))
      have HS0 := Lib.hid hK0
      clear hW0 hK0 HMC HTC HS HXC f1
      refine lexH_yieldE rfl rfl ?_
      apply Exists.intro
      refine ⟨fun W hW => ?_, ?_⟩
      focus (go_simp; exact rfl)
      simp only [List.getElem_toArray, List.getElem_cons_zero, Act.put, List.setIfInBounds_toArray, List.set_cons_zero, List.set_cons_succ]
      refine lexH_yieldE rfl rfl ?_
      apply Exists.intro
      refine ⟨fun W hW => ?_, ?_⟩
      focus (go_simp; exact rfl)
      simp only [List.getElem_toArray, List.getElem_cons_succ, List.getElem_cons_zero, Act.put, List.setIfInBounds_toArray, List.set_cons_zero, List.set_cons_succ]
      refine lexH_yieldE rfl rfl ?_
      apply Exists.intro
      refine ⟨fun W hW => ?_, ?_⟩
      focus (go_simp; exact rfl)
      simp only [List.getElem_toArray, List.getElem_cons_succ, List.getElem_cons_zero, Act.put, List.setIfInBounds_toArray, List.set_cons_zero, List.set_cons_succ]
      refine lexH_yieldE rfl rfl ?_
      apply Exists.intro
      refine ⟨fun W hW => ?_, ?_⟩
      focus (go_simp; exact rfl)
      simp only [List.getElem_toArray, List.getElem_cons_succ, List.getElem_cons_zero, Act.put, List.setIfInBounds_toArray, List.set_cons_zero, List.set_cons_succ]
      refine lexH_yieldE rfl rfl ?_
      apply Exists.intro
      refine ⟨fun W hW => ?_, ?_⟩
      focus (go_simp; exact rfl)
      simp only [List.getElem_toArray, List.getElem_cons_succ, List.getElem_cons_zero, Act.put, List.setIfInBounds_toArray, List.set_cons_zero, List.set_cons_succ]
      refine lexH_load rfl rfl _ _ rfl rfl L1.out ?_
      simp only [List.getElem_toArray, List.getElem_cons_succ, List.getElem_cons_zero, Act.put, List.setIfInBounds_toArray, List.set_cons_zero, List.set_cons_succ]
      refine lexH_load rfl rfl _ _ rfl rfl L2.out ?_
      simp only [List.getElem_toArray, List.getElem_cons_succ, List.getElem_cons_zero, Act.put, List.setIfInBounds_toArray, List.set_cons_zero, List.set_cons_succ]
      refine lexH_yieldE rfl rfl ?_
      apply Exists.intro
      refine ⟨fun W hW => ?_, ?_⟩
      focus (go_simp; exact rfl)
      simp only [List.getElem_toArray, List.getElem_cons_succ, List.getElem_cons_zero, Act.put, List.setIfInBounds_toArray, List.set_cons_zero, List.set_cons_succ]
      refine lexH_yieldE rfl rfl ?_
      apply Exists.intro
      refine ⟨fun W hW => ?_, ?_⟩
      focus (go_simp; exact rfl)
      simp only [List.getElem_toArray, List.getElem_cons_succ, List.getElem_cons_zero, Act.put, List.setIfInBounds_toArray, List.set_cons_zero, List.set_cons_succ]
      refine lexH_eff rfl rfl ?_
      unfold Oper.wp
      go_simp
      have hba : Below W0.heap.size W0 (W0.alloc (.cells #[.int .i64 x, .int .i64 y] 33)) := (Below.refl _ _).alloc (Nat.le_refl _) _
      have HS1 := Lib.hid (HS0.out.only (Only.of_below (S := fun _ => False) hba) (fun h => h) (fun h => h))
      have HO1 := Lib.hid (owns_later HM0.out.lo hba)
      have HR1 := Lib.hid (obj_row W0 x y)
      have HB1 := Lib.hid hba
      dsimp only at HO1
      refine ⟨HS1.out, ?_⟩
      clear hba
      generalize W0.alloc (.cells #[.int .i64 x, .int .i64 y] 33) = W1 at HS1 HO1 HR1 HB1 ⊢
      generalize hc1 : W0.heap.size = cX at HR1 ⊢
      have HC1 := Lib.hid hc1
      clear hc1
      refine lexH_eff rfl rfl ?_
      refine wp_append_whr _ _ _ 29 rfl 0 33 i0 _ 2 16 Try.underlying29 hi hz0 hz1 hz2 rfl (by decide) (.slice la O.length lc) _ _ HO1.out (Nat.zero_le _) ⟨cX, 0, none⟩ 1 (encO (x, y)) rfl rfl rfl (obj_src HR1.out) (encO_one _) (by have := HLT.out; omega) (by decide) ?_
      intro v2 W2 hown2 ho2 hwh
      have HS2 := Lib.hid (HS1.out.only ho2 (fun e => HPL.out e) (fun e => HN2.out (.inr (.inl e))))
      refine ⟨HS2.out, ?_⟩
      simp only [List.getElem_toArray, List.getElem_cons_succ, List.getElem_cons_zero, Act.put, List.setIfInBounds_toArray, List.set_cons_zero, List.set_cons_succ]
      have hown9 : W2.ownsRow 0 TO 2 v2 (O ++ [(x, y)]).length (recV encO (O ++ [(x, y)])) := by
        rw [List.length_append, recV_append, recV_single]
        exact hown2
      have hm9 := HM0.out.setL ((Only.of_below HB1.out).trans ho2) (fun k hk => hk) hown9 (by rw [List.length_append, List.length_singleton]; have := HLT.out; omega) (fun k hk => by
        rcases hwh with e | e
        · exact .inl (by rw [← e]; exact hk)
        · exact .inr (Nat.le_trans HB1.out.size (e k hk)))
      have c9 := HS2.out.1
      have f9 : W2.frozen? ⟨p2, 1, none⟩ = false := (HM0.out.row.only ((Only.of_below HB1.out).trans ho2) (fun e => HPL.out e)).frozen 1
      obtain ⟨a9, q9, hv9⟩ := owns_len hown9
      have HF := Lib.hid (PutP.of HT0.out hm9.1 hm9.2 HG.out)
      generalize (O ++ [(x, y)]).length = n9 at hv9
      subst hv9
      clear hown2 ho2 hwh hm9 hown9 HS2 HO1 HR1 HB1 HS1 L1 L2 HPL
      dsimp only at HF
      refine lexH_yieldE rfl rfl ?_
      apply Exists.intro
      refine ⟨fun W hW => ?_, ?_⟩
      focus (go_simp; exact rfl)
      simp only [List.getElem_toArray, List.getElem_cons_succ, List.getElem_cons_zero, Act.put, List.setIfInBounds_toArray, List.set_cons_zero, List.set_cons_succ]
      refine lexH_last rfl rfl ?_
      unfold Oper.wp
      go_simp
      go_wp2_with (fail)
      go_ret
      exact HF.out
  · have eL := len_f hL
    have HLT := Lib.hid (show L.length < N by omega)
    have HG := Lib.hid (putM_app (x := (x, y)) (O := O) HLT.out)
    clear hL hlN hoN
    go_wp2_with (fail)
    refine (full0_any HMA.out).mono ?_
    rintro e wC ⟨rfl, hb⟩
    have HMC := Lib.hid (HMA.out.later hb)
    have HTC := Lib.hid (HTA.out.later hb)
    have HXC := Lib.hid (HXA.out.later hb)
    clear hb HMA HTA HXA
    obtain ⟨la, lc, hl⟩ := HMC.out.ls
    have HPL := Lib.hid HMC.out.pl
    have f1 := HMC.out.fz 1
    dsimp only at hl HPL f1
    subst hl
    have HS := Lib.hid (show PutS p X (.slice la L.length lc) x y wC from ⟨HMC.out.c1, HXC.out⟩)
    have L1 := Lib.hid (show ∀ V, PutS p X (.slice la L.length lc) x y V → (loadVar 29 ⟨p, 1, none⟩).run Try.prog V = .ok (.slice la L.length lc) V from fun V hV => run_loadVar_cell (fun _ => by kernel_rfl) hV.1)
    have L2 := Lib.hid (show ∀ V, PutS p X (.slice la L.length lc) x y V → (loadVar 33 ⟨X, 0, none⟩).run Try.prog V = .ok (.agg #[.int .i64 x, .int .i64 y]) V from fun V hV => load_obj (hV.2.cell 0 (by decide)) (hV.2.cell 1 (by decide)))
    go_wp2_with (fail)
    refine wp_region_lexF (PutS p X (.slice la L.length lc) x y) [(0, false), (1, false), (2, false), (3, false), (4, false), (5, false), (6, false), (9, false), (10, false), (7, true), (8, true), (11, false)] 12 (by kernel_rfl) (by kernel_rfl) rfl (by kernel_rfl) (HS.out.only (Only.drewN (fun _ => False) wC 1) (fun h => h) (fun h => h)) ?_
    intro W0 hW0 hK0
    have HM0 := Lib.hid (show MAt W0 _ N L _ by rw [hW0]; exact HMC.out.later (below_drewN (Below.refl _ _) 1))
    have HT0 := Lib.hid (show MTurn w _ W0 _ by rw [hW0]; exact HTC.out.later (below_drewN (Below.refl _ _) 1))
    have HS0 := Lib.hid hK0
    clear hW0 hK0 HMC HTC HS HXC f1
    refine lexH_yieldE rfl rfl ?_
    apply Exists.intro
    refine ⟨fun W hW => ?_, ?_⟩
    focus (go_simp; exact rfl)
    simp only [List.getElem_toArray, List.getElem_cons_zero, Act.put, List.setIfInBounds_toArray, List.set_cons_zero, List.set_cons_succ]
    refine lexH_yieldE rfl rfl ?_
    apply Exists.intro
    refine ⟨fun W hW => ?_, ?_⟩
    focus (go_simp; exact rfl)
    simp only [List.getElem_toArray, List.getElem_cons_succ, List.getElem_cons_zero, Act.put, List.setIfInBounds_toArray, List.set_cons_zero, List.set_cons_succ]
    refine lexH_yieldE rfl rfl ?_
    apply Exists.intro
    refine ⟨fun W hW => ?_, ?_⟩
    focus (go_simp; exact rfl)
    simp only [List.getElem_toArray, List.getElem_cons_succ, List.getElem_cons_zero, Act.put, List.setIfInBounds_toArray, List.set_cons_zero, List.set_cons_succ]
    refine lexH_yieldE rfl rfl ?_
    apply Exists.intro
    refine ⟨fun W hW => ?_, ?_⟩
    focus (go_simp; exact rfl)
    simp only [List.getElem_toArray, List.getElem_cons_succ, List.getElem_cons_zero, Act.put, List.setIfInBounds_toArray, List.set_cons_zero, List.set_cons_succ]
    refine lexH_yieldE rfl rfl ?_
    apply Exists.intro
    refine ⟨fun W hW => ?_, ?_⟩
    focus (go_simp; exact rfl)
    simp only [List.getElem_toArray, List.getElem_cons_succ, List.getElem_cons_zero, Act.put, List.setIfInBounds_toArray, List.set_cons_zero, List.set_cons_succ]
    refine lexH_load rfl rfl _ _ rfl rfl L1.out ?_
    simp only [List.getElem_toArray, List.getElem_cons_succ, List.getElem_cons_zero, Act.put, List.setIfInBounds_toArray, List.set_cons_zero, List.set_cons_succ]
    refine lexH_load rfl rfl _ _ rfl rfl L2.out ?_
    simp only [List.getElem_toArray, List.getElem_cons_succ, List.getElem_cons_zero, Act.put, List.setIfInBounds_toArray, List.set_cons_zero, List.set_cons_succ]
    refine lexH_yieldE rfl rfl ?_
    apply Exists.intro
    refine ⟨fun W hW => ?_, ?_⟩
    focus (go_simp; exact rfl)
    simp only [List.getElem_toArray, List.getElem_cons_succ, List.getElem_cons_zero, Act.put, List.setIfInBounds_toArray, List.set_cons_zero, List.set_cons_succ]
    refine lexH_yieldE rfl rfl ?_
    apply Exists.intro
    refine ⟨fun W hW => ?_, ?_⟩
    focus (go_simp; exact rfl)
    simp only [List.getElem_toArray, List.getElem_cons_succ, List.getElem_cons_zero, Act.put, List.setIfInBounds_toArray, List.set_cons_zero, List.set_cons_succ]
    refine lexH_eff rfl rfl ?_
    unfold Oper.wp
    go_simp
    have hba : Below W0.heap.size W0 (W0.alloc (.cells #[.int .i64 x, .int .i64 y] 33)) := (Below.refl _ _).alloc (Nat.le_refl _) _
    have HS1 := Lib.hid (HS0.out.only (Only.of_below (S := fun _ => False) hba) (fun h => h) (fun h => h))
    have HO1 := Lib.hid (owns_later HM0.out.lo hba)
    have HR1 := Lib.hid (obj_row W0 x y)
    have HB1 := Lib.hid hba
    dsimp only at HO1
    refine ⟨HS1.out, ?_⟩
    clear hba
    generalize W0.alloc (.cells #[.int .i64 x, .int .i64 y] 33) = W1 at HS1 HO1 HR1 HB1 ⊢
    generalize hc1 : W0.heap.size = cX at HR1 ⊢
    have HC1 := Lib.hid hc1
    clear hc1
    refine lexH_eff rfl rfl ?_
    refine wp_append_whr _ _ _ 29 rfl 0 33 i0 _ 2 16 Try.underlying29 hi hz0 hz1 hz2 rfl (by decide) (.slice la L.length lc) _ _ HO1.out (Nat.zero_le _) ⟨cX, 0, none⟩ 1 (encO (x, y)) rfl rfl rfl (obj_src HR1.out) (encO_one _) (by have := HLT.out; omega) (by decide) ?_
    intro v2 W2 hown2 ho2 hwh
    have HS2 := Lib.hid (HS1.out.only ho2 (fun e => HPL.out e) (fun e => HN.out (.inr (.inl e))))
    refine ⟨HS2.out, ?_⟩
    simp only [List.getElem_toArray, List.getElem_cons_succ, List.getElem_cons_zero, Act.put, List.setIfInBounds_toArray, List.set_cons_zero, List.set_cons_succ]
    have hown9 : W2.ownsRow 0 TO 2 v2 (L ++ [(x, y)]).length (recV encO (L ++ [(x, y)])) := by
      rw [List.length_append, recV_append, recV_single]
      exact hown2
    have hm9 := HM0.out.setL ((Only.of_below HB1.out).trans ho2) (fun k hk => hk) hown9 (by rw [List.length_append, List.length_singleton]; have := HLT.out; omega) (fun k hk => by
      rcases hwh with e | e
      · exact .inl (by rw [← e]; exact hk)
      · exact .inr (Nat.le_trans HB1.out.size (e k hk)))
    have c9 := HS2.out.1
    have f9 : W2.frozen? ⟨p, 1, none⟩ = false := (HM0.out.row.only ((Only.of_below HB1.out).trans ho2) (fun e => HPL.out e)).frozen 1
    obtain ⟨a9, q9, hv9⟩ := owns_len hown9
    have HF := Lib.hid (PutP.of HT0.out hm9.1 hm9.2 HG.out)
    generalize (L ++ [(x, y)]).length = n9 at hv9
    subst hv9
    clear hown2 ho2 hwh hm9 hown9 HS2 HO1 HR1 HB1 HS1 L1 L2 HPL
    dsimp only at HF
    refine lexH_yieldE rfl rfl ?_
    apply Exists.intro
    refine ⟨fun W hW => ?_, ?_⟩
    focus (go_simp; exact rfl)
    simp only [List.getElem_toArray, List.getElem_cons_succ, List.getElem_cons_zero, Act.put, List.setIfInBounds_toArray, List.set_cons_zero, List.set_cons_succ]
    refine lexH_last rfl rfl ?_
    unfold Oper.wp
    go_simp
    go_wp2_with (fail)
    go_ret
    exact HF.out
end
end Go.Proofs.Ytaadjgnfihkaeaa
