/-
  slots: the landed Take, Free.
-/
import Derived.Test.YtenfeamohcclaaaSkIx
namespace Go.Proofs.Ytenfeamohcclaaa
open Go.RowKit Go.Shelf Go
attribute [local go_sem] Oper.semAt_some

section
variable {w w' w1 : World} {d N : Nat} {m : Bool} {v : Value} {f : Nat → Ownr}
theorem thS_same (h : SkAt w d m v N f) (hb : Below w.heap.size w w') : TTurn w (thS d m v N f) w' (thS d m v N f) :=
  ⟨h.later hb, Only.of_below hb, fun _ hk => .inl hk⟩
/-- A slot is another one's. -/
theorem SkAt.turn (h : SkAt w d m v N f) (hb : Below w.heap.size w w1) {g c : Nat} (hv : v = .slice (some ⟨g, 0, none⟩) N c) (X y1 y2 : Nat) :
    TTurn w (thS d m v N f) ((w1.setCell ⟨g, X * 2, none⟩ (.int .i64 y1)).setCell ⟨g, X * 2 + 1, none⟩ (.int .i64 y2)) (thS d m v N (updO f X (y1, y2))) := by
  have h1 := h.later hb
  have hg : v.ownBlock = some g := by rw [hv]; rfl
  have o1 : Only (fun k => k = g) w1 ((w1.setCell ⟨g, X * 2, none⟩ (.int .i64 y1)).setCell ⟨g, X * 2 + 1, none⟩ (.int .i64 y2)) :=
    (Only.setCell (S := fun k => k = g) w1 ⟨g, X * 2, none⟩ rfl _).trans (Only.setCell (S := fun k => k = g) _ ⟨g, X * 2 + 1, none⟩ rfl _)
  have hgd : g ≠ d := fun e => h.pv (by rw [hg, e])
  refine ⟨⟨h1.row.only o1 (fun e => hgd e.symm), ?_, h.pv⟩, ?_, fun _ hk => .inl hk⟩
  · have h2 := h1.ow
    rw [hv] at h2 ⊢
    rw [← owL_set]
    exact owns_set (owns_set h2 _ _) _ _
  · exact (Only.of_below hb).trans (o1.mono (fun k hk => by rw [hk]; exact .inr hg))
theorem SkAt.there (h : SkAt w d m v N f) {g c : Nat} (hv : v = .slice (some ⟨g, 0, none⟩) N c) {X : Nat} (hX : X < N) : w.there g (X * 2) 2 := by
  obtain ⟨⟨y1, y2⟩, hy⟩ : ∃ y, f X = y := ⟨_, rfl⟩
  obtain ⟨g2, c2, hv2, _, k0, k1, z⟩ := h.at hX hy
  obtain rfl : g2 = g := by
    have h5 := hv2.symm.trans hv
    simp only [Value.slice.injEq, Option.some.injEq, Addr.mk.injEq] at h5
    exact h5.1.1
  intro j hj
  rcases (show j = 0 ∨ j = 1 by omega) with rfl | rfl
  · exact ⟨by rw [Nat.add_zero, k0]; rfl, z _⟩
  · exact ⟨by rw [k1]; rfl, z _⟩
/-- What Free leaves. -/
def SkT (w : World) (d : Nat) (v : Value) (N : Nat) (f : Nat → Ownr) (E : Int) (g : Nat → Ownr) (e : Ending) (w' : World) : Prop := e = .returned (.int .i64 E) ∧ TTurn w (thS d true v N f) w' (thS d true v N g)
theorem SkT.same (h : SkAt w d true v N f) {E : Int} (hb : Below w.heap.size w w') : SkT w d v N f E f (.returned (.int .i64 E)) w' := ⟨rfl, thS_same h hb⟩
/-- What Take leaves. -/
def SkK (w : World) (d : Nat) (v : Value) (N : Nat) (f : Nat → Ownr) (K : Nat) (E : Int) (g : Nat → Ownr) (e : Ending) (w' : World) : Prop := e = .returned (.tuple #[.int .i64 K, .int .i64 E]) ∧ TTurn w (thS d true v N f) w' (thS d true v N g)
set_option maxRecDepth 100000 in
set_option maxHeartbeats 4000000 in
theorem free_sk (h : SkAt w d true v N f) (I : SlI f N) (x : Int) : Calls Try.prog 14 #[.pointer (some ⟨d, 0, none⟩), .int .i64 x] w
    (SkT w d v N f (rcE f N x) (rcF f N x)) := by
  have HA := Lib.hid h
  have HM := Lib.hid (missing_sk (d := some d) ⟨v, h⟩)
  have HH := Lib.hid (has_sk (d := some d) ⟨v, h⟩ x)
  have HK := Lib.hid (taken_sk (d := some d) ⟨v, h⟩ I x)
  simp only [Option.map_some, Bool.not_true] at HM HH HK
  by_cases hx : FrOk N x
  · rw [decide_eq_true hx] at HH
    obtain ⟨X, rfl⟩ : ∃ X : Nat, x = X := ⟨x.toNat, by have := hx.1; omega⟩
    have hlt : X < N := by have := hx.2; omega
    have hltI : (X : Int) < (N : Int) := by omega
    obtain ⟨⟨y1, y2⟩, hy⟩ : ∃ y, f X = y := ⟨_, rfl⟩
    have et : tkB f N (X : Int) = decide (y1 ≠ 0) := by
      unfold tkB rgO
      rw [if_pos hx, Int.toNat_natCast, hy]
    rw [et] at HK
    by_cases h0 : y1 = 0
    · have e1 : rcE f N X = 7 := by
        unfold rcE
        rw [if_pos hx, Int.toNat_natCast, hy, if_pos h0]
      have e2 : rcF f N X = f := if_neg (by rw [e1]; decide)
      rw [e1, e2]
      rw [show decide (y1 ≠ 0) = false from decide_eq_false (fun q => q h0)] at HK
      clear h I e1 e2 hy hx et
      go_enter Try.func14, Try.ntmps14
      go_wp2_with (fail)
      refine HM.out.mono ?_
      rintro e w1 ⟨rfl, rfl⟩
      go_wp2_with (fail)
      refine HH.out.mono ?_
      rintro e w1 ⟨rfl, rfl⟩
      go_wp2_with (fail)
      refine HK.out.mono ?_
      rintro e w1 ⟨rfl, hb⟩
      have HB := Lib.hid hb
      clear hb
      go_wp2_with (fail)
      go_ret
      exact SkT.same HA.out HB.out
    · have e1 : rcE f N X = 0 := by
        unfold rcE
        rw [if_pos hx, Int.toNat_natCast, hy, if_neg h0]
      have e2 : rcF f N X = updO f X (0, 0) := by
        unfold rcF
        rw [if_pos e1, Int.toNat_natCast]
      rw [e1, e2]
      rw [show decide (y1 ≠ 0) = true from decide_eq_true h0] at HK
      clear h I e1 e2 hx et
      go_enter Try.func14, Try.ntmps14
      go_wp2_with (fail)
      refine HM.out.mono ?_
      rintro e w1 ⟨rfl, rfl⟩
      go_wp2_with (fail)
      refine HH.out.mono ?_
      rintro e w1 ⟨rfl, rfl⟩
      go_wp2_with (fail)
      refine HK.out.mono ?_
      rintro e w1 ⟨rfl, hb⟩
      have HB := Lib.hid hb
      have HA1 := Lib.hid (HA.out.later hb)
      obtain ⟨g, c, hv, _, k0, k1, z⟩ := HA1.out.at hlt hy
      have HTH := Lib.hid (HA1.out.there hv hlt)
      have c1 := HA1.out.c1
      have HV := Lib.hid hv
      rw [hv] at c1
      have HT := Lib.hid (SkAt.turn HA.out hb hv X 0 0)
      clear hb z hy hv
      go_wp2_with (first | (refine wpList_store_mid rfl 58 _ _ rfl g (X * 2) #[.int .i64 0, .int .i64 0] rfl rfl HTH.out sizeOw (by simp [Value.oneCell']) ?_) | fail)
      obtain ⟨W2, hW2⟩ : ∃ W2, W2 = (w1.setCell ⟨g, X * 2, none⟩ (.int .i64 ((0 : Nat) : Int))).setCell ⟨g, X * 2 + 1, none⟩ (.int .i64 ((0 : Nat) : Int)) := ⟨_, rfl⟩
      rw [← hW2] at HT
      rw [show w1.setCells g (X * 2) (#[Value.int .i64 0, Value.int .i64 0] : Array Value).toList = W2 from hW2.symm]
      clear hW2 HTH c1 k0 k1
      go_wp2_with (fail)
      go_ret
      exact ⟨rfl, HT.out⟩
  · rw [decide_eq_false hx] at HH
    have e1 : rcE f N x = 2 := if_neg hx
    have e2 : rcF f N x = f := if_neg (by rw [e1]; decide)
    rw [e1, e2]
    clear e1 e2 hx I h HK
    go_enter Try.func14, Try.ntmps14
    go_wp2_with (fail)
    refine HM.out.mono ?_
    rintro e w1 ⟨rfl, rfl⟩
    go_wp2_with (fail)
    refine HH.out.mono ?_
    rintro e w1 ⟨rfl, rfl⟩
    go_wp2_with (fail)
    go_ret
    exact SkT.same HA.out (Below.refl _ _)
set_option maxRecDepth 100000 in
set_option maxHeartbeats 4000000 in
theorem take_sk (h : SkAt w d true v N f) (I : SlI f N) (p q : Int) : Calls Try.prog 12 #[.pointer (some ⟨d, 0, none⟩), .int .i64 p, .int .i64 q] w
    (SkK w d v N f (stK f N p q) (stE f N p q) (stF f N p q)) := by
  have HA := Lib.hid h
  have HM := Lib.hid (missing_sk (d := some d) ⟨v, h⟩)
  simp only [Option.map_some, Bool.not_true] at HM
  have HB := Lib.hid ((Below.refl w.heap.size w).alloc (Nat.le_refl _) (.cells #[.int .i64 p, .int .i64 q] 58))
  have HY := Lib.hid (fun W => may_sk W p q)
  have b0 : (w.alloc (.cells #[.int .i64 p, .int .i64 q] 58)).cell? ⟨w.heap.size, 0, none⟩ = some (.int .i64 p) := by simp [go_sem]
  have b1 : (w.alloc (.cells #[.int .i64 p, .int .i64 q] 58)).cell? ⟨w.heap.size, 1, none⟩ = some (.int .i64 q) := by simp [go_sem]
  have HI := Lib.hid I
  by_cases hpg : PgOk p q
  · rw [decide_eq_true hpg] at HY
    obtain ⟨P, rfl⟩ : ∃ P : Nat, p = P := ⟨p.toNat, by have := hpg.1; omega⟩
    obtain ⟨Q, rfl⟩ : ∃ Q : Nat, q = Q := ⟨q.toNat, by have := hpg.2.2.1; omega⟩
    obtain ⟨a, c, hv, _⟩ := owns_slice h.ow
    have HV := Lib.hid hv
    have HPG := Lib.hid hpg
    clear h I hpg hv
    go_enter Try.func12, Try.ntmps12
    go_wp2_with (fail)
    refine HM.out.mono ?_
    rintro e w1 ⟨rfl, rfl⟩
    go_wp2_with (fail)
    generalize w.alloc (.cells #[.int .i64 (P : Int), .int .i64 (Q : Int)] 58) = w2 at *
    refine (HY.out _).mono ?_
    rintro e w3 ⟨rfl, hb⟩
    have B0 := Lib.hid ((hb.cell (p := ⟨w.heap.size, 0, none⟩) (World.block_lt_of_cell? _ _ b0)).trans b0)
    have B1 := Lib.hid ((hb.cell (p := ⟨w.heap.size, 1, none⟩) (World.block_lt_of_cell? _ _ b1)).trans b1)
    have HB3 := Lib.hid (HB.out.trans (hb.mono HB.out.size))
    have HA3 := Lib.hid (HA.out.later HB3.out)
    have c1 := HA3.out.c1
    rw [HV.out] at c1
    have HIX := Lib.hid (index_sk HA3.out.ow HI.out)
    rw [HV.out] at HIX
    clear hb b0 b1 HB
    go_wp2_with (fail)
    refine HIX.out.mono ?_
    rintro e w4 ⟨rfl, hb⟩
    have B04 := Lib.hid ((hb.cell (p := ⟨w.heap.size, 0, none⟩) (World.block_lt_of_cell? _ _ B0.out)).trans B0.out)
    have B14 := Lib.hid ((hb.cell (p := ⟨w.heap.size, 1, none⟩) (World.block_lt_of_cell? _ _ B1.out)).trans B1.out)
    have HB4 := Lib.hid (HB3.out.trans (hb.mono HB3.out.size))
    have HA4 := Lib.hid (HA.out.later HB4.out)
    clear hb c1 B0 B1 HB3 HA3 HIX
    cases hl : leastF f N with
    | none =>
      rw [ixV_none hl]
      have e1 : stK f N P Q = 0 := by unfold stK; rw [if_pos HPG.out, hl]; rfl
      have e2 : stE f N P Q = 9 := by unfold stE; rw [if_pos HPG.out, hl]; rfl
      have e3 : stF f N P Q = f := by unfold stF; rw [if_pos HPG.out, hl]
      have HE := Lib.hid (And.intro e1 (And.intro e2 e3))
      clear hl e1 e2 e3
      go_wp2_with (fail)
      go_ret2
      rw [HE.out.1, HE.out.2.1, HE.out.2.2]
      exact ⟨rfl, thS_same HA.out HB4.out⟩
    | some X =>
      rw [ixV_some hl]
      have e1 : stK f N P Q = X := by unfold stK; rw [if_pos HPG.out, hl]; rfl
      have e2 : stE f N P Q = 0 := by unfold stE; rw [if_pos HPG.out, hl]; rfl
      have e3 : stF f N P Q = updO f X (P, Q) := by unfold stF; rw [if_pos HPG.out, hl]; simp
      have HE := Lib.hid (And.intro e1 (And.intro e2 e3))
      have hlt := (leastF_some hl).1
      have hN := HI.out.le
      have hltI : (X : Int) < (N : Int) := by omega
      obtain ⟨⟨y1, y2⟩, hy⟩ : ∃ y, f X = y := ⟨_, rfl⟩
      obtain ⟨g, c2, hv2, _, k0, k1, z⟩ := HA4.out.at hlt hy
      obtain ⟨rfl, rfl⟩ : a = some ⟨g, 0, none⟩ ∧ c = c2 := by
        have h5 := HV.out.symm.trans hv2
        simp only [Value.slice.injEq] at h5
        exact ⟨h5.1, h5.2.2⟩
      have M0 := Lib.hid (show ∀ W, W = w4.drew → (loadVar 51 ⟨d, 1, none⟩).run Try.prog W = .ok (.slice (some ⟨g, 0, none⟩) N c) W from fun W hW => by
        subst hW
        rw [← HV.out]
        exact run_loadVar_cell (fun _ => by kernel_rfl) HA4.out.c1)
      have M2 := Lib.hid (show ∀ W, W = w4.drew → (loadVar 58 ⟨w.heap.size, 0, none⟩).run Try.prog W = .ok (.agg #[.int .i64 (P : Int), .int .i64 (Q : Int)]) W from fun W hW => by
        subst hW
        exact load_ow B04.out B14.out)
      clear hl e1 e2 e3 hy hv2 k0 k1 z B04 B14
      go_wp2_with (fail)
      refine wp_region_lexF (fun W => W = w4.drew) [(0, false), (1, false), (2, false), (3, false), (4, false), (5, false), (6, false)] 7 (by kernel_rfl) (by kernel_rfl) rfl (by kernel_rfl) rfl ?_
      intro W1 hW1 _
      refine lexH_yieldE rfl rfl ?_
      apply Exists.intro
      refine ⟨fun W hW => ?_, ?_⟩
      focus (go_simp; exact rfl)
      simp only [List.getElem_toArray, List.getElem_cons_zero, Act.put, List.setIfInBounds_toArray, List.set_cons_zero, List.set_cons_succ]
      refine lexH_yieldE rfl rfl ?_
      apply Exists.intro
      refine ⟨fun W hW => ?_, ?_⟩
      focus (go_simp; exact rfl)
      simp only [List.getElem_toArray, List.getElem_cons_succ, List.getElem_cons_zero, Act.put, List.setIfInBounds_toArray, List.set_cons_zero, List.set_cons_succ]
      refine lexH_yieldE rfl rfl ?_
      apply Exists.intro
      refine ⟨fun W hW => ?_, ?_⟩
      focus (go_simp; exact rfl)
      simp only [List.getElem_toArray, List.getElem_cons_succ, List.getElem_cons_zero, Act.put, List.setIfInBounds_toArray, List.set_cons_zero, List.set_cons_succ]
      refine lexH_load rfl rfl _ _ rfl rfl M0.out ?_
      simp only [List.getElem_toArray, List.getElem_cons_succ, List.getElem_cons_zero, Act.put, List.setIfInBounds_toArray, List.set_cons_zero, List.set_cons_succ]
      refine lexH_yieldE rfl rfl ?_
      apply Exists.intro
      refine ⟨fun W hW => ?_, ?_⟩
      focus (go_simp; exact rfl)
      simp only [List.getElem_toArray, List.getElem_cons_succ, List.getElem_cons_zero, Act.put, List.setIfInBounds_toArray, List.set_cons_zero, List.set_cons_succ]
      refine lexH_load rfl rfl _ _ rfl rfl M2.out ?_
      simp only [List.getElem_toArray, List.getElem_cons_succ, List.getElem_cons_zero, Act.put, List.setIfInBounds_toArray, List.set_cons_zero, List.set_cons_succ]
      refine lexH_yieldE rfl rfl ?_
      apply Exists.intro
      refine ⟨fun W hW => ?_, ?_⟩
      focus (go_simp; exact rfl)
      simp only [List.getElem_toArray, List.getElem_cons_succ, List.getElem_cons_zero, Act.put, List.setIfInBounds_toArray, List.set_cons_zero, List.set_cons_succ]
      refine lexH_last rfl rfl ?_
      have HB5 := Lib.hid (show Below w.heap.size w W1 from by rw [hW1]; exact below_drewN HB4.out 1)
      have HA5 := Lib.hid (HA.out.later HB5.out)
      have HTH := Lib.hid (HA5.out.there HV.out hlt)
      have HT := Lib.hid (SkAt.turn HA.out HB5.out HV.out X P Q)
      clear M0 M2 hW1 HA4 HB4
      refine wp_store_mid _ _ _ rfl g (X * 2) _ rfl rfl HTH.out sizeOw (by simp [Value.oneCell']) ?_
      obtain ⟨W2, hW2⟩ : ∃ W2, W2 = (W1.setCell ⟨g, X * 2, none⟩ (.int .i64 (P : Int))).setCell ⟨g, X * 2 + 1, none⟩ (.int .i64 (Q : Int)) := ⟨_, rfl⟩
      rw [← hW2] at HT
      rw [show W1.setCells g (X * 2) (#[Value.int .i64 (P : Int), Value.int .i64 (Q : Int)] : Array Value).toList = W2 from hW2.symm]
      clear hW2 HTH
      go_wp2_with (fail)
      go_ret2
      rw [HE.out.1, HE.out.2.1, HE.out.2.2]
      exact ⟨rfl, HT.out⟩
  · rw [decide_eq_false hpg] at HY
    have e1 : stK f N p q = 0 := if_neg hpg
    have e2 : stE f N p q = 2 := if_neg hpg
    have e3 : stF f N p q = f := if_neg hpg
    rw [e1, e2, e3]
    clear h I hpg e1 e2 e3
    go_enter Try.func12, Try.ntmps12
    go_wp2_with (fail)
    refine HM.out.mono ?_
    rintro e w1 ⟨rfl, rfl⟩
    go_wp2_with (fail)
    generalize w.alloc (.cells #[.int .i64 p, .int .i64 q] 58) = w2 at *
    refine (HY.out _).mono ?_
    rintro e w3 ⟨rfl, hb⟩
    have HB3 := Lib.hid (HB.out.trans (hb.mono HB.out.size))
    clear hb b0 b1
    go_wp2_with (fail)
    go_ret2
    exact ⟨rfl, thS_same HA.out HB3.out⟩
end
end Go.Proofs.Ytenfeamohcclaaa
