/-
  depot: All, Flush, Queue of the landed depot.
-/
import Derived.Test.YtagnipkannogoaaDpGet
namespace Go.Proofs.Ytagnipkannogoaa
open Go.RowKit Go
section
variable {w w' w1 : World} {D D' : DP} {N : Nat} {F F' : List Obs} {L Q Q' m : Obs} {v : Value}
set_option maxRecDepth 100000 in
set_option maxHeartbeats 8000000 in
theorem all_any (h : DAt w D N L Q) (hL : L.length ≤ 50000) (hQ : Q.length ≤ 50000) : Calls Try.prog 21 #[.pointer (some ⟨D.p, 0, none⟩)] w (AllP w (L ++ Q)) := by
  have HM := Lib.hid h
  obtain ⟨la, lc, hl⟩ := h.ls
  obtain ⟨oa, oc, ho⟩ := h.os
  obtain ⟨p, l, o⟩ := D
  dsimp only at hl ho
  subst hl
  subst ho
  clear h
  have HLL := Lib.hid hL
  have HQL := Lib.hid hQ
  clear hL hQ
  have L1 := Lib.hid (show ∀ V, Kept w.heap.size w V → (loadVar 30 ⟨p, 1, none⟩).run Try.prog V = .ok (.slice la L.length lc) V from fun V hV => run_loadVar_cell (fun _ => by kernel_rfl) (HM.out.later hV.below).c1)
  have L2 := Lib.hid (show ∀ V, Kept w.heap.size w V → (loadVar 30 ⟨p, 2, none⟩).run Try.prog V = .ok (.slice oa Q.length oc) V from fun V hV => run_loadVar_cell (fun _ => by kernel_rfl) (HM.out.later hV.below).c2)
  go_enter Try.func21, Try.ntmps21
  go_wp2_with (fail)
  refine wp_region_lex1 (Kept w.heap.size w) [(0, false), (1, false), (2, false), (3, false), (4, false), (5, false), (6, false), (7, false), (8, true), (9, true), (10, false)] (by kernel_rfl) (by kernel_rfl) rfl (by kernel_rfl) (Below.refl _ w).drew ?_
  intro W0 hW0 hK0
  clear hW0
  refine lexH_yieldE rfl rfl ?_
  apply Exists.intro
  refine ⟨fun W hW => ?_, ?_⟩
  focus (go_simp; exact rfl)
  simp only [List.getElem_toArray, List.getElem_cons_zero, Act.put, List.setIfInBounds_toArray, List.set_cons_zero, List.set_cons_succ]
  refine lexH_yieldE rfl rfl ?_
  apply Exists.intro
  refine ⟨fun W hW => ?_, ?_⟩
  focus (go_simp; exact rfl)
  simp only [List.getElem_toArray, List.getElem_cons_succ, List.getElem_cons_zero, Act.put, List.setIfInBounds_toArray, List.set_cons_zero, List.set_cons_succ]
  refine lexH_yieldE rfl rfl ?_
  apply Exists.intro
  refine ⟨fun W hW => ?_, ?_⟩
  focus (go_simp; exact rfl)
  simp only [List.getElem_toArray, List.getElem_cons_succ, List.getElem_cons_zero, Act.put, List.setIfInBounds_toArray, List.set_cons_zero, List.set_cons_succ]
  refine lexH_load rfl rfl _ _ rfl rfl L1.out ?_
  simp only [List.getElem_toArray, List.getElem_cons_succ, List.getElem_cons_zero, Act.put, List.setIfInBounds_toArray, List.set_cons_zero, List.set_cons_succ]
  refine lexH_yieldE rfl rfl ?_
  apply Exists.intro
  refine ⟨fun W hW => ?_, ?_⟩
  focus (go_simp; exact rfl)
  simp only [List.getElem_toArray, List.getElem_cons_succ, List.getElem_cons_zero, Act.put, List.setIfInBounds_toArray, List.set_cons_zero, List.set_cons_succ]
  refine lexH_yieldE rfl rfl ?_
  apply Exists.intro
  refine ⟨fun W hW => ?_, ?_⟩
  focus (go_simp; exact rfl)
  simp only [List.getElem_toArray, List.getElem_cons_succ, List.getElem_cons_zero, Act.put, List.setIfInBounds_toArray, List.set_cons_zero, List.set_cons_succ]
  refine lexH_yieldE rfl rfl ?_
  apply Exists.intro
  refine ⟨fun W hW => ?_, ?_⟩
  focus (go_simp; exact rfl)
  simp only [List.getElem_toArray, List.getElem_cons_succ, List.getElem_cons_zero, Act.put, List.setIfInBounds_toArray, List.set_cons_zero, List.set_cons_succ]
  refine lexH_load rfl rfl _ _ rfl rfl L2.out ?_
  simp only [List.getElem_toArray, List.getElem_cons_succ, List.getElem_cons_zero, Act.put, List.setIfInBounds_toArray, List.set_cons_zero, List.set_cons_succ]
  refine lexH_eff rfl rfl ?_
  unfold Oper.wp
  go_simp
  have hba : Below W0.heap.size W0 (W0.alloc (.cells #[.slice la L.length lc, .slice oa Q.length oc] 30)) := (Below.refl _ _).alloc (Nat.le_refl _) _
  have hb1 := hK0.below.trans (hba.mono hK0.below.size)
  have HB1 := Lib.hid hb1
  have HC := Lib.hid (sliceCells (w := W0) (.slice la L.length lc) (.slice oa Q.length oc))
  have HS1 := Lib.hid (SrcO.of_owns (HM.out.later hb1).lo)
  have HS2 := Lib.hid (SrcO.of_owns (HM.out.later hb1).ot)
  dsimp only at HS1 HS2
  refine ⟨hb1, ?_⟩
  clear hba hb1 hK0
  generalize W0.alloc (.cells #[.slice la L.length lc, .slice oa Q.length oc] 30) = W1 at *
  generalize W0.heap.size = sb at *
  refine lexH_call 29 #[.slice (some ⟨sb, 0, none⟩) 2 2] rfl rfl ?_ ?_
  focus (go_simp; done)
  refine (concat_any HS1.out HS2.out HLL.out HQL.out HC.out.1 HC.out.2).mono ?_
  rintro e w3 ⟨v3, rfl, hown, hb⟩
  have HF := Lib.hid (HB1.out.trans (hb.mono HB1.out.size))
  have HG := Lib.hid (show AllP w (L ++ Q) (.returned v3) w3 from ⟨_, rfl, owns_base hown (fun k hk => Nat.le_trans HB1.out.size (hown.lt k hk).1), HF.out⟩)
  refine ⟨_, rfl, HF.out, ?_⟩
  clear hown hb HB1 HC L1 L2 HS1 HS2 HM
  simp only [List.getElem_toArray, List.getElem_cons_succ, List.getElem_cons_zero, Act.put, List.setIfInBounds_toArray, List.set_cons_zero, List.set_cons_succ]
  refine lexH_yieldE rfl rfl ?_
  apply Exists.intro
  refine ⟨fun W hW => ?_, ?_⟩
  focus (go_simp; exact rfl)
  simp only [List.getElem_toArray, List.getElem_cons_succ, List.getElem_cons_zero, Act.put, List.setIfInBounds_toArray, List.set_cons_zero, List.set_cons_succ]
  refine lexH_nil ?_
  go_wp2_with (fail)
  go_ret
  exact HG.out
def FlushP (w : World) (D : DP) (N : Nat) (F : List Obs) (Q : Obs) (e : Ending) (w' : World) : Prop :=
  ∃ v Y, e = .returned v ∧ IsD Y D.p N [] [] ∧ TTurn w (thD D N F.flatten Q) w' Y ∧
    w'.ownsRow 0 TO 2 v (dpAll F Q).length (recV encO (dpAll F Q)) ∧ ∀ k, v.ownBlock = some k → (D.has k ∨ w.heap.size ≤ k) ∧ ¬ Y.has k
set_option maxRecDepth 100000 in
set_option maxHeartbeats 4000000 in
theorem flush_any (h : DAt w D N F.flatten Q) (hF : FOk N F) (hQ : Q.length ≤ 50000) : Calls Try.prog 19 #[.pointer (some ⟨D.p, 0, none⟩)] w (FlushP w D N F Q) := by
  have HA := Lib.hid (all_any h (by have := flat_le hF.2.1 hF.2.2.1 hF.2.2.2; omega) hQ)
  have HD := Lib.hid h
  have HF := Lib.hid hF
  clear h hF hQ
  obtain ⟨p, l, o⟩ := D
  dsimp only at HA ⊢
  go_enter Try.func19, Try.ntmps19
  go_wp2_with (fail)
  refine HA.out.mono ?_
  rintro e w3 ⟨v, rfl, hown, hb⟩
  have e1 : w3.cell? ⟨p, 1, none⟩ = _ := (HD.out.later hb).c1
  have e2 : w3.cell? ⟨p, 2, none⟩ = _ := (HD.out.later hb).c2
  have f1 : w3.frozen? ⟨p, 1, none⟩ = _ := (HD.out.later hb).fz 1
  have f2 : w3.frozen? ⟨p, 2, none⟩ = _ := (HD.out.later hb).fz 2
  have hT := (HD.out.later hb).none2
  have HQ := Lib.hid (show FlushP w ⟨p, l, o⟩ N F Q (.returned v) ((w3.setCell ⟨p, 1, none⟩ (.slice none 0 0)).setCell ⟨p, 2, none⟩ (.slice none 0 0)) from by
    have hnv : ∀ k, v.ownBlock = some k → w.heap.size ≤ k := fun k hk => (hown.lt k hk).1
    have hpl : p < w.heap.size := HD.out.lt (.inl rfl)
    refine ⟨v, thD ⟨p, .slice none 0 0, .slice none 0 0⟩ N [] [], rfl, ⟨⟨⟨p, .slice none 0 0, .slice none 0 0⟩, rfl, rfl⟩, HF.out.1, HF.out.2.1, Nat.zero_le _, fun x hx => absurd hx List.not_mem_nil⟩, (TTurn.of_below (X := thD _ N _ Q) HD.out hb).trans hT, ?_, fun k hk => ⟨.inr (hnv k hk), fun h => ?_⟩⟩
    · refine owns_only (owns_only (owns_base hown (fun _ _ => Nat.zero_le _)) (Only.setCell (S := Eq p) _ ⟨p, 1, none⟩ rfl _) (fun k hk e => ?_)) (Only.setCell (S := Eq p) _ ⟨p, 2, none⟩ rfl _) (fun k hk e => ?_)
      · have := hnv k hk; omega
      · have := hnv k hk; omega
    · rcases h with h | h | h
      · dsimp only at h
        have := hnv k hk; omega
      · cases h
      · cases h)
  obtain ⟨va, vc, hv⟩ := owns_len hown
  obtain ⟨la, lc, hl⟩ := HD.out.ls
  obtain ⟨oa, oc, ho⟩ := HD.out.os
  dsimp only at e1 e2 hl ho
  subst hl
  subst ho
  generalize (F.flatten ++ Q).length = vn at hv
  subst hv
  clear hown hb hT HD HF HA
  go_wp2_with (fail)
  go_ret
  exact HQ.out
/-- What the region that appends wants. -/
def QueS (p X : Nat) (l : Value) (x y : Int) (V : World) : Prop := V.cell? ⟨p, 2, none⟩ = some l ∧ RowAt V X 2 (obV x y)
theorem QueS.only {S : Nat → Prop} {p X : Nat} {l : Value} {x y : Int} (h : QueS p X l x y w) (ho : Only S w w') (h1 : ¬ S p) (h2 : ¬ S X) : QueS p X l x y w' := ⟨ho.cell h1 h.1, h.2.only ho h2⟩
end
section
variable {P : Program} {ops : Array Oper} {Q : Exit → Act → World → Prop} {K : Act → World → Prop} {a : Act}
theorem wp_append_whrN (w : World) {o : Oper} (s x : Operand) (t : TypeId)
    (ho : o.op = .call { callee := .builtin .append, args := #[s, x], argTypes := #[t, t] })
    (base : Nat) (e : TypeId) (ti : TypeInfo) (z : Value) (size bytes : Nat) (ht : P.underlying t = some (.slice e)) (hti : P.info? e = some ti) (hz : ti.zero = some z)
    (hsize : ti.size = size) (hby : ti.bytes = bytes) (hzs : z.cells.size = size) (hsz : 0 < size)
    (v : Value) (n : Nat) (xs : List Value) (hown : w.ownsRow base e size v n xs) (hbase : base ≤ w.heap.size)
    (ad : Addr) (c : Nat) (news : List Value) (hs : a.eval s = v) (hx : a.eval x = .slice (some ad) 1 c) (hl : news.length = 1 * size) (hsrc : ∀ j u, news[j]? = some u → w.cell? (ad.add j) = some u) (h1 : ∀ u ∈ news, u.oneCell' = true)
    (h63 : n + 1 ≤ maxLen) (hb : (n + 1) * bytes ≤ 140737488355328)
    (h : ∀ v' w', w'.ownsRow base e size v' (n + 1) (xs ++ news) → Only (fun k => v.ownBlock = some k) w w' → (v'.ownBlock = v.ownBlock ∨ ∀ k, v'.ownBlock = some k → w.heap.size ≤ k) → K (a.put o.dst v') w') : o.wp P a w K Q := by
  obtain ⟨v', w', hr, h2, h3, h4⟩ := run_append_own_src (P := P) w base t o.type e ti z size bytes ht hti hz hsize hby hzs hsz v n xs hown (some ad) 1 c news hl (fun _ => ⟨ad, rfl, hsrc⟩) h1 h63 hb hbase
  have hwh := append_whrN (P := P) base t o.type e ti z size bytes ht hti hz hsize hby v n xs hown ad 1 c (by omega) news hl hsrc h1 h63 hb hr
  unfold Oper.wp execOp
  simp only [ho, resolve, invoke, builtin, Sem.run_bind, Sem.run_pure, Result.andThen_ok, List.map_toArray, List.map_cons, List.map_nil, hs, hx, hr]
  exact h v' w' h2 (Only.of_grown h3) hwh
end
section
variable {w w' w1 : World} {D D' : DP} {N : Nat} {F F' : List Obs} {L Q Q' m : Obs} {v : Value}
def QueP (w : World) (D : DP) (N : Nat) (L Q : Obs) (e : Ending) (w' : World) : Prop := ∃ v, e = .returned (.tuple #[]) ∧ TTurn w (thD D N L Q) w' (thD ⟨D.p, D.l, v⟩ N L Q')
set_option maxRecDepth 100000 in
set_option maxHeartbeats 8000000 in
theorem queue_any (h : DAt w D N L Q) (h1 : 1 ≤ N) (hQ : Q.length ≤ 50000) (x y : Int) : Calls Try.prog 16 #[.pointer (some ⟨D.p, 0, none⟩), .agg #[.int .i64 x, .int .i64 y]] w (QueP (Q' := Q ++ [(x, y)]) w D N L Q) := by
  obtain ⟨i0, hi, hz0, hz1, hz2⟩ := info_parts infoObj
  have hba : Below w.heap.size w (w.alloc (.cells #[.int .i64 x, .int .i64 y] 38)) := (Below.refl w.heap.size w).alloc (Nat.le_refl _) _
  have HM := Lib.hid (missing_any (h.later hba) h1)
  have HD0 := Lib.hid h
  have HB0 := Lib.hid hba
  have HX := Lib.hid (obj_row w x y)
  have HN := Lib.hid (show ¬ D.has w.heap.size from fun e => by have := h.lt e; omega)
  have HLQ := Lib.hid hQ
  clear h hba h1 hQ
  obtain ⟨p, l, o⟩ := D
  dsimp only at HM ⊢
  go_enter Try.func16, Try.ntmps16
  go_wp2_with (fail)
  obtain ⟨wA, hwA⟩ : ∃ wA, w.alloc (.cells #[.int .i64 x, .int .i64 y] 38) = wA := ⟨_, rfl⟩
  rw [hwA] at HX HB0 HM ⊢
  obtain ⟨X, hX⟩ : ∃ X, w.heap.size = X := ⟨_, rfl⟩
  have HXX := Lib.hid hX
  rw [hX] at HX HN ⊢
  clear hX hwA
  refine HM.out.mono ?_
  rintro e w' ⟨rfl, rfl⟩
  clear HM
  obtain ⟨oa, oc, ho⟩ := HD0.out.os
  have HPO := Lib.hid HD0.out.po
  have HDA := Lib.hid (HD0.out.later HB0.out)
  dsimp only at ho HPO
  subst ho
  have HS := Lib.hid (show QueS p X (.slice oa Q.length oc) x y wA from ⟨HDA.out.c2, HX.out⟩)
  have L1 := Lib.hid (show ∀ V, QueS p X (.slice oa Q.length oc) x y V → (loadVar 30 ⟨p, 2, none⟩).run Try.prog V = .ok (.slice oa Q.length oc) V from fun V hV => run_loadVar_cell (fun _ => by kernel_rfl) hV.1)
  have L2 := Lib.hid (show ∀ V, QueS p X (.slice oa Q.length oc) x y V → (loadVar 38 ⟨X, 0, none⟩).run Try.prog V = .ok (.agg #[.int .i64 x, .int .i64 y]) V from fun V hV => load_obj (hV.2.cell 0 (by decide)) (hV.2.cell 1 (by decide)))
  clear HX
  go_wp2_with (fail)
  refine wp_region_lexF (QueS p X (.slice oa Q.length oc) x y) [(0, false), (1, false), (2, false), (3, false), (4, false), (5, false), (6, true), (7, true), (8, false), (9, false)] 10 (by kernel_rfl) (by kernel_rfl) rfl (by kernel_rfl) (HS.out.only (Only.drewN (fun _ => False) wA 1) (fun h => h) (fun h => h)) ?_
  intro W0 hW0 hK0
  have HDW := Lib.hid (show DAt W0 _ N L Q by rw [hW0]; exact HDA.out.later (below_drewN (Below.refl _ _) 1))
  have HBW := Lib.hid (show Below w.heap.size w W0 by rw [hW0]; exact HB0.out.trans ((below_drewN (Below.refl _ _) 1).mono HB0.out.size))
  have HS0 := Lib.hid hK0
  clear hW0 hK0 HDA HS HB0
  refine lexH_yieldE rfl rfl ?_
  apply Exists.intro
  refine ⟨fun W hW => ?_, ?_⟩
  focus (go_simp; exact rfl)
  simp only [List.getElem_toArray, List.getElem_cons_zero, Act.put, List.setIfInBounds_toArray, List.set_cons_zero, List.set_cons_succ]
  refine lexH_yieldE rfl rfl ?_
  apply Exists.intro
  refine ⟨fun W hW => ?_, ?_⟩
  focus (go_simp; exact rfl)
  simp only [List.getElem_toArray, List.getElem_cons_succ, List.getElem_cons_zero, Act.put, List.setIfInBounds_toArray, List.set_cons_zero, List.set_cons_succ]
  refine lexH_yieldE rfl rfl ?_
  apply Exists.intro
  refine ⟨fun W hW => ?_, ?_⟩
  focus (go_simp; exact rfl)
  simp only [List.getElem_toArray, List.getElem_cons_succ, List.getElem_cons_zero, Act.put, List.setIfInBounds_toArray, List.set_cons_zero, List.set_cons_succ]
  refine lexH_yieldE rfl rfl ?_
  apply Exists.intro
  refine ⟨fun W hW => ?_, ?_⟩
  focus (go_simp; exact rfl)
  simp only [List.getElem_toArray, List.getElem_cons_succ, List.getElem_cons_zero, Act.put, List.setIfInBounds_toArray, List.set_cons_zero, List.set_cons_succ]
  refine lexH_load rfl rfl _ _ rfl rfl L1.out ?_
  simp only [List.getElem_toArray, List.getElem_cons_succ, List.getElem_cons_zero, Act.put, List.setIfInBounds_toArray, List.set_cons_zero, List.set_cons_succ]
  refine lexH_load rfl rfl _ _ rfl rfl L2.out ?_
  simp only [List.getElem_toArray, List.getElem_cons_succ, List.getElem_cons_zero, Act.put, List.setIfInBounds_toArray, List.set_cons_zero, List.set_cons_succ]
  refine lexH_eff rfl rfl ?_
  unfold Oper.wp
  go_simp
  have hba : Below W0.heap.size W0 (W0.alloc (.cells #[.int .i64 x, .int .i64 y] 38)) := (Below.refl _ _).alloc (Nat.le_refl _) _
  have HS1 := Lib.hid (HS0.out.only (Only.of_below (S := fun _ => False) hba) (fun h => h) (fun h => h))
  have HD1 := Lib.hid (HDW.out.later hba)
  have HO1 := Lib.hid HD1.out.ot
  have HR1 := Lib.hid (obj_row W0 x y)
  have HB1 := Lib.hid (HBW.out.trans (hba.mono HBW.out.size))
  dsimp only at HO1
  refine ⟨HS1.out, ?_⟩
  clear hba
  generalize W0.alloc (.cells #[.int .i64 x, .int .i64 y] 38) = W1 at HS1 HO1 HR1 HB1 HD1 ⊢
  generalize hc1 : W0.heap.size = cX at HR1 ⊢
  clear hc1
  refine lexH_eff rfl rfl ?_
  refine wp_append_whrN _ _ _ 30 rfl 0 38 i0 _ 2 16 Try.underlying30 hi hz0 hz1 hz2 rfl (by decide) (.slice oa Q.length oc) _ _ HO1.out (Nat.zero_le _) ⟨cX, 0, none⟩ 1 (encO (x, y)) rfl rfl rfl (obj_src HR1.out) (encO_one _) (by have := HLQ.out; unfold maxLen; omega) (by have := HLQ.out; omega) ?_
  intro v2 W2 hown2 ho2 hwh
  have HS2 := Lib.hid (HS1.out.only ho2 (fun e => HPO.out e) (fun e => HN.out (.inr (.inr e))))
  refine ⟨HS2.out, ?_⟩
  simp only [List.getElem_toArray, List.getElem_cons_succ, List.getElem_cons_zero, Act.put, List.setIfInBounds_toArray, List.set_cons_zero, List.set_cons_succ]
  have hown9 : W2.ownsRow 0 TO 2 v2 (Q ++ [(x, y)]).length (recV encO (Q ++ [(x, y)])) := by
    rw [List.length_append, recV_append, recV_single]
    exact hown2
  have hm9 := HD1.out.setO ho2 (fun k hk => hk) hown9 (fun k hk => by
    rcases hwh with e | e
    · exact .inl (by rw [← e]; exact hk)
    · exact .inr (e k hk))
  have c9 := HS2.out.1
  have f9 : W2.frozen? ⟨p, 2, none⟩ = false := (HD1.out.row.only ho2 (fun e => HPO.out e)).frozen 2
  obtain ⟨a9, q9, hv9⟩ := owns_len hown9
  have HF := Lib.hid (show QueP (Q' := Q ++ [(x, y)]) w ⟨p, l, .slice oa Q.length oc⟩ N L Q (.returned (.tuple #[])) (W2.setCell ⟨p, 2, none⟩ v2) from ⟨v2, rfl, (TTurn.of_below (X := thD _ N L Q) HD0.out HB1.out).trans hm9⟩)
  generalize (Q ++ [(x, y)]).length = n9 at hv9
  subst hv9
  clear hown2 ho2 hwh hm9 hown9 HS2 HO1 HR1 HB1 HS1 L1 L2 HPO HD1 HDW HD0
  refine lexH_yieldE rfl rfl ?_
  apply Exists.intro
  refine ⟨fun W hW => ?_, ?_⟩
  focus (go_simp; exact rfl)
  simp only [List.getElem_toArray, List.getElem_cons_succ, List.getElem_cons_zero, Act.put, List.setIfInBounds_toArray, List.set_cons_zero, List.set_cons_succ]
  refine lexH_yieldE rfl rfl ?_
  apply Exists.intro
  refine ⟨fun W hW => ?_, ?_⟩
  focus (go_simp; exact rfl)
  simp only [List.getElem_toArray, List.getElem_cons_succ, List.getElem_cons_zero, Act.put, List.setIfInBounds_toArray, List.set_cons_zero, List.set_cons_succ]
  refine lexH_last rfl rfl ?_
  unfold Oper.wp
  go_simp
  go_wp2_with (fail)
  refine bodyPost_ret (results_none rfl _ _ _) rfl ?_
  exact HF.out
end
end Go.Proofs.Ytagnipkannogoaa
