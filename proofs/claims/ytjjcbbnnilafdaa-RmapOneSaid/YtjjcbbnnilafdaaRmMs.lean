/-
  rmap: the landed Get, Set, Clear.
-/
import Derived.Test.YtjjcbbnnilafdaaRmMp
import Derived.Test.YtjjcbbnnilafdaaRmSet
namespace Go.Proofs.Ytjjcbbnnilafdaa
open Go.RowKit Go.Shelf Go Go.Maps
attribute [local go_sem] Oper.semAt_some

section
variable {P : Program} {ops : Array Oper} {Q : Exit → Act → World → Prop} {S : World → Prop} {K : Act → World → Prop} {i : Nat} {r : List (Nat × Bool)} {a : Act} {w : World}
/-- 'v, ok := m[x]' in a drawn region. -/
theorem lexH_look {o : Oper} {v : Value} (hi : ops[i]? = some o) (hw : Region.wanted o (yielded ops a.tmps) = true) (t : TypeId) (m y : Operand) (ho : o.op = .lookup t m y true) {u k : Value} (hm : a.eval m = u) (hy : a.eval y = k)
    (hv : ∀ W, S W → (Instr.lookup t u k true).run P W = .ok v W) (h : LexH P ops Q S K r (a.put o.dst v) w) : LexH P ops Q S K ((i, false) :: r) a w :=
  lexH_yield hi hw (fun W hW => by unfold execOp; simp only [ho, hm, hy, Sem.run_bind, Sem.run_pure, Result.andThen_ok, hv W hW]) h
/-- 'm[x] = c', 'delete(m, x)' by their runs. -/
theorem wp_upd_run {Q : Exit → Act → World → Prop} {K : Act → World → Prop} {o : Oper} {t : TypeId} {m y v : Operand} (ho : o.op = .mapUpdate t m y v) {u k c : Value} (hm : a.eval m = u) (hy : a.eval y = k) (hv : a.eval v = c) {w' : World}
    (hr : (Instr.mapUpdate t u k c).run P w = .ok () w') (h : K (a.put o.dst undef) w') : o.wp P a w K Q := by
  unfold Oper.wp
  simp [execOp, ho, hm, hy, hv, hr, Result.andThen]
  exact h
theorem wp_del_run {Q : Exit → Act → World → Prop} {K : Act → World → Prop} {o : Oper} {t kt : TypeId} {m y : Operand} (ho : o.op = Op.call { callee := Callee.builtin Builtin.delete, args := #[m, y], argTypes := #[t, kt] }) {u k : Value} (hm : a.eval m = u) (hy : a.eval y = k) {w' : World}
    (hr : (Builtin.delete_ #[t, kt] o.type #[u, k]).run P w = .ok (.tuple #[]) w') (h : K (a.put o.dst (.tuple #[])) w') : o.wp P a w K Q := by
  unfold Oper.wp
  simp [execOp, ho, resolve, invoke, builtin, hm, hy, hr, Result.andThen]
  exact h
end
section
variable {w w' w1 : World} {d mb N : Nat} {v : Value} {f : Nat → Ownr}
theorem thO_same (h : OwAt w d v mb N f) (hb : Below w.heap.size w w') : TTurn w (thO d v mb N f) w' (thO d v mb N f) :=
  ⟨h.later hb, Only.of_below hb, fun _ hk => .inl hk⟩
/-- A frame is another one's, in the row and in the map. -/
theorem OwAt.turn (h : OwAt w d v mb N f) (hb : Below w.heap.size w w1) {g c : Nat} (hv : v = .slice (some ⟨g, 0, none⟩) N c) (X y1 y2 : Nat) {w2 w3 : World} (e2 : w2 = (w1.setCell ⟨g, X * 2, none⟩ (.int .i64 y1)).setCell ⟨g, X * 2 + 1, none⟩ (.int .i64 y2))
    {m : Int × Int → Option Int} (hm : LMap Try.prog TOw KO EI w3 mb m) (ho : Only (fun j => j = mb) w2 w3) (he : ∀ x, fmO (updO f X (y1, y2)) N x = m x) :
    TTurn w (thO d v mb N f) w3 (thO d v mb N (updO f X (y1, y2))) := by
  have h1 := h.later hb
  have hg : v.ownBlock = some g := by rw [hv]; rfl
  have o1 : Only (fun k => k = g) w1 w2 := by
    rw [e2]
    exact (Only.setCell (S := fun k => k = g) w1 ⟨g, X * 2, none⟩ rfl _).trans (Only.setCell (S := fun k => k = g) _ ⟨g, X * 2 + 1, none⟩ rfl _)
  have hgd : g ≠ d := fun e => h.pv (by rw [hg, e])
  have hgm : g ≠ mb := fun e => h.vm (by rw [hg, e])
  have hr : w2.ownsRow 0 TOw 2 v N (owL (updO f X (y1, y2)) N) := by
    have h2 := h1.ow
    rw [hv] at h2 ⊢
    rw [e2, ← owL_set]
    exact owns_set (owns_set h2 _ _) _ _
  refine ⟨⟨(h1.row.only o1 (fun e => hgd e.symm)).only ho (fun e => h.pm e.symm), owns_only hr ho (fun k hk e => h.vm (by rw [hk, e])), hm.ext (fun x _ => he x), h.pv, h.pm, h.vm⟩, ?_, fun _ hk => .inl hk⟩
  exact (Only.of_below hb).trans ((o1.mono (fun k hk => by rw [hk]; exact .inr (.inl hg))).trans (ho.mono (fun k hk => .inr (.inr hk))))
theorem OwAt.there (h : OwAt w d v mb N f) {g c : Nat} (hv : v = .slice (some ⟨g, 0, none⟩) N c) {X : Nat} (hX : X < N) : w.there g (X * 2) 2 := by
  obtain ⟨⟨y1, y2⟩, hy⟩ : ∃ y, f X = y := ⟨_, rfl⟩
  obtain ⟨g2, c2, hv2, _, k0, k1, z⟩ := h.at hX hy
  obtain rfl : g2 = g := by
    have h5 := hv2.symm.trans hv
    simp only [Value.slice.injEq, Option.some.injEq, Addr.mk.injEq] at h5
    exact h5.1.1
  intro j hj
  rcases (show j = 0 ∨ j = 1 by omega) with rfl | rfl
  · exact ⟨by rw [Nat.add_zero, k0]; rfl, z _⟩
  · exact ⟨by rw [k1]; rfl, z _⟩
set_option maxRecDepth 100000 in
set_option maxHeartbeats 2000000 in
theorem get_mp (h : OwAt w d v mb N f) (I : RmI f N) (x : Int) : Calls Try.prog 17 #[.pointer (some ⟨d, 0, none⟩), .int .i64 x] w fun e w' =>
    e = .returned (.tuple #[.int .i64 (rgO f N x).1, .int .i64 (rgO f N x).2, .bool (decide ((rgO f N x).1 ≠ 0))]) ∧ Below w.heap.size w w' := by
  have HH := Lib.hid (has_any h x)
  by_cases hx : FrOk N x
  · obtain ⟨X, rfl⟩ : ∃ X : Nat, x = X := ⟨x.toNat, by have := hx.1; omega⟩
    have hlt : X < N := by have := hx.2; omega
    obtain ⟨⟨y1, y2⟩, hy⟩ : ∃ y, f X = y := ⟨_, rfl⟩
    rw [show rgO f N (X : Int) = (y1, y2) from by rw [rgO, if_pos hx, Int.toNat_natCast, hy]]
    rw [decide_eq_true hx] at HH
    obtain ⟨g, c, hv, _, k0, k1, _⟩ := h.at hlt hy
    have hno : y1 = 0 → y2 = 0 := fun e => by
      have h3 := I.no X hlt (by rw [hy]; exact e)
      rw [hy] at h3
      exact congrArg Prod.snd h3
    have c0 := h.c0
    subst hv
    have hltI : (X : Int) < (N : Int) := by omega
    have hd : decide ((((y1, y2) : Ownr)).1 ≠ 0) = decide (¬ (y1 : Int) = 0) := by
      by_cases e : y1 = 0 <;> simp [e]
    rw [hd]
    dsimp only
    have hno2 : (y1 : Int) = 0 → (y2 : Int) = 0 := fun e => by
      have := hno (by omega)
      omega
    clear h I hy hx hno hd
    generalize (y1 : Int) = a at *
    generalize (y2 : Int) = b at *
    have HB := Lib.hid ((Below.refl w.heap.size w).alloc (Nat.le_refl _) (.cells #[.int .i64 a, .int .i64 b] 57))
    have b0 : (w.alloc (.cells #[.int .i64 a, .int .i64 b] 57)).cell? ⟨w.heap.size, 0, none⟩ = some (.int .i64 a) := by simp [go_sem]
    have b1 : (w.alloc (.cells #[.int .i64 a, .int .i64 b] 57)).cell? ⟨w.heap.size, 1, none⟩ = some (.int .i64 b) := by simp [go_sem]
    by_cases h0 : a = 0
    · obtain rfl := hno2 h0
      subst h0
      rw [show decide (¬ (0 : Int) = 0) = false from rfl]
      have hq := ow_noN
      clear hno2
      go_enter Try.func17, Try.ntmps17
      go_wp2_with (fail)
      refine HH.out.mono ?_
      rintro e w1 ⟨rfl, rfl⟩
      go_wp2_with (fail)
      generalize w.alloc (.cells #[.int .i64 0, .int .i64 0] 57) = w2 at *
      go_quiet (fail)
      go_wp2_with (fail)
      go_ret3
      exact ⟨rfl, below_drewN HB.out _⟩
    · rw [show decide (¬ a = 0) = true from decide_eq_true h0]
      have hq := fun W => ow_yesN (y := b) h0 W
      clear hno2
      go_enter Try.func17, Try.ntmps17
      go_wp2_with (fail)
      refine HH.out.mono ?_
      rintro e w1 ⟨rfl, rfl⟩
      go_wp2_with (fail)
      generalize w.alloc (.cells #[.int .i64 a, .int .i64 b] 57) = w2 at *
      go_quiet (fail)
      go_wp2_with (fail)
      go_ret3
      exact ⟨rfl, below_drewN HB.out _⟩
  · rw [decide_eq_false hx] at HH
    rw [show rgO f N x = (0, 0) from if_neg hx]
    clear h I hx
    go_enter Try.func17, Try.ntmps17
    go_wp2_with (fail)
    refine HH.out.mono ?_
    rintro e w1 ⟨rfl, rfl⟩
    go_wp2_with (fail)
    go_ret3
    exact ⟨rfl, Below.refl _ _⟩
/-- What a call that turns leaves. -/
def MpT (w : World) (d : Nat) (v : Value) (mb N : Nat) (f : Nat → Ownr) (E : Int) (g : Nat → Ownr) (e : Ending) (w' : World) : Prop := e = .returned (.int .i64 E) ∧ TTurn w (thO d v mb N f) w' (thO d v mb N g)
theorem MpT.same (h : OwAt w d v mb N f) {E : Int} (hb : Below w.heap.size w w') : MpT w d v mb N f E f (.returned (.int .i64 E)) w' := ⟨rfl, thO_same h hb⟩
set_option maxRecDepth 100000 in
set_option maxHeartbeats 4000000 in
theorem set_mp (h : OwAt w d v mb N f) (I : RmI f N) (x p q : Int) (hp : InI p) (hq : InI q) : Calls Try.prog 12 #[.pointer (some ⟨d, 0, none⟩), .int .i64 x, .int .i64 p, .int .i64 q] w
    (MpT w d v mb N f (rsE f N x p q) (rsF f N x p q)) := by
  have HA := Lib.hid h
  have HM := Lib.hid (missing_any h)
  have HB := Lib.hid ((Below.refl w.heap.size w).alloc (Nat.le_refl _) (.cells #[.int .i64 p, .int .i64 q] 57))
  have HA1 := Lib.hid (h.later HB.out)
  have HH := Lib.hid (has_any HA1.out x)
  have HY := Lib.hid (fun W => may_any W p q)
  have b0 : (w.alloc (.cells #[.int .i64 p, .int .i64 q] 57)).cell? ⟨w.heap.size, 0, none⟩ = some (.int .i64 p) := by simp [go_sem]
  have b1 : (w.alloc (.cells #[.int .i64 p, .int .i64 q] 57)).cell? ⟨w.heap.size, 1, none⟩ = some (.int .i64 q) := by simp [go_sem]
  by_cases hx : FrOk N x
  · rw [decide_eq_true hx] at HH
    by_cases hpg : PgOk p q
    · rw [decide_eq_true hpg] at HY
      obtain ⟨X, rfl⟩ : ∃ X : Nat, x = X := ⟨x.toNat, by have := hx.1; omega⟩
      have hlt : X < N := by have := hx.2; omega
      obtain ⟨⟨y1, y2⟩, hy⟩ : ∃ y, f X = y := ⟨_, rfl⟩
      obtain ⟨g, c, hv, _, k0, k1, z⟩ := HA1.out.at hlt hy
      have c0 := HA1.out.c0
      have hno : y1 = 0 → y2 = 0 := fun e => by
        have h3 := I.no X hlt (by rw [hy]; exact e)
        rw [hy] at h3
        exact congrArg Prod.snd h3
      have hltI : (X : Int) < (N : Int) := by omega
      have HV := Lib.hid hv
      rw [hv] at c0
      obtain ⟨P, rfl⟩ : ∃ P : Nat, p = P := ⟨p.toNat, by have := hpg.1; omega⟩
      obtain ⟨Q, rfl⟩ : ∃ Q : Nat, q = Q := ⟨q.toNat, by have := hpg.2.2.1; omega⟩
      by_cases h0 : y1 = 0
      · obtain rfl := hno h0
        subst h0
        have k0 : (w.alloc (.cells #[.int .i64 (P : Int), .int .i64 (Q : Int)] 57)).cell? ⟨g, X * 2, none⟩ = some (.int .i64 0) := k0
        have k1 : (w.alloc (.cells #[.int .i64 (P : Int), .int .i64 (Q : Int)] 57)).cell? ⟨g, X * 2 + 1, none⟩ = some (.int .i64 0) := k1
        have hq2 := ow_noN
        go_enter Try.func12, Try.ntmps12
        go_wp2_with (fail)
        refine HM.out.mono ?_
        rintro e w1 ⟨rfl, rfl⟩
        go_wp2_with (fail)
        generalize w.alloc (.cells #[.int .i64 (P : Int), .int .i64 (Q : Int)] 57) = w2 at *
        refine HH.out.mono ?_
        rintro e w1 ⟨rfl, rfl⟩
        go_wp2_with (fail)
        refine (HY.out _).mono ?_
        rintro e w3 ⟨rfl, hb⟩
        have k0 := (hb.cell (p := ⟨g, X * 2, none⟩) (World.block_lt_of_cell? _ _ k0)).trans k0
        have k1 := (hb.cell (p := ⟨g, X * 2 + 1, none⟩) (World.block_lt_of_cell? _ _ k1)).trans k1
        have c0 := (hb.cell (p := ⟨d, 0, none⟩) (World.block_lt_of_cell? _ _ c0)).trans c0
        have HB3 := Lib.hid (HB.out.trans (hb.mono HB.out.size))
        have HA3 := Lib.hid (HA1.out.later hb)
        have L1 := Lib.hid (show ∀ W, W = w3.drew → (loadVar 51 ⟨d, 1, none⟩).run Try.prog W = .ok (.map (some mb)) W from fun W hW => by
          subst hW
          exact run_loadVar_cell (fun _ => by kernel_rfl) HA3.out.c1)
        have L2 := Lib.hid (show ∀ W, W = w3.drew → (loadVar 57 ⟨w.heap.size, 0, none⟩).run Try.prog W = .ok (.agg #[.int .i64 (P : Int), .int .i64 (Q : Int)]) W from fun W hW => by
          subst hW
          exact load_ow ((hb.cell (p := ⟨w.heap.size, 0, none⟩) (World.block_lt_of_cell? _ _ b0)).trans b0) ((hb.cell (p := ⟨w.heap.size, 1, none⟩) (World.block_lt_of_cell? _ _ b1)).trans b1))
        have B0 := Lib.hid ((hb.cell (p := ⟨w.heap.size, 0, none⟩) (World.block_lt_of_cell? _ _ b0)).trans b0)
        have B1 := Lib.hid ((hb.cell (p := ⟨w.heap.size, 1, none⟩) (World.block_lt_of_cell? _ _ b1)).trans b1)
        have L3 := Lib.hid (show ∀ W, W = w3.drew → (Instr.lookup 51 (.map (some mb)) (.agg #[.int .i64 (P : Int), .int .i64 (Q : Int)]) true).run Try.prog W = .ok (.tuple #[.int .i64 ((fmO f N ((P : Int), (Q : Int))).getD 0), .bool (fmO f N ((P : Int), (Q : Int))).isSome]) W from fun W hW => by
          subst hW
          exact (HA3.out.later (below_drewN (Below.refl _ _) 1)).mp.look (KE := KO) (E := EI) (x := ((P : Int), (Q : Int))) Try.underlying51 0 (int_wf (by decide)) (zeroI _) ⟨int_wf hp, int_wf hq⟩)
        clear hb b0 b1
        go_wp2_with (fail)
        refine wp_region_lex1 (fun W => W = w3.drew) [(0, false), (1, false), (2, false), (3, false), (4, false), (5, false), (6, false), (7, false), (8, false), (9, false), (10, false)] (by kernel_rfl) (by kernel_rfl) rfl (by kernel_rfl) rfl ?_
        intro W0 hW0 _
        refine lexH_yieldE rfl rfl ?_
        apply Exists.intro
        refine ⟨fun W hW => ?_, ?_⟩
        focus (go_simp; exact rfl)
        simp only [List.getElem_toArray, List.getElem_cons_zero, Act.put, List.setIfInBounds_toArray, List.set_cons_zero, List.set_cons_succ]
        refine lexH_yieldE rfl rfl ?_
        apply Exists.intro
        refine ⟨fun W hW => ?_, ?_⟩
        focus (go_simp; exact rfl)
        simp only [List.getElem_toArray, List.getElem_cons_succ, List.getElem_cons_zero, Act.put, List.setIfInBounds_toArray, List.set_cons_zero, List.set_cons_succ]
        refine lexH_yieldE rfl rfl ?_
        apply Exists.intro
        refine ⟨fun W hW => ?_, ?_⟩
        focus (go_simp; exact rfl)
        simp only [List.getElem_toArray, List.getElem_cons_succ, List.getElem_cons_zero, Act.put, List.setIfInBounds_toArray, List.set_cons_zero, List.set_cons_succ]
        refine lexH_load rfl rfl _ _ rfl rfl L1.out ?_
        simp only [List.getElem_toArray, List.getElem_cons_succ, List.getElem_cons_zero, Act.put, List.setIfInBounds_toArray, List.set_cons_zero, List.set_cons_succ]
        refine lexH_load rfl rfl _ _ rfl rfl L2.out ?_
        simp only [List.getElem_toArray, List.getElem_cons_succ, List.getElem_cons_zero, Act.put, List.setIfInBounds_toArray, List.set_cons_zero, List.set_cons_succ]
        refine lexH_look rfl rfl _ _ _ rfl rfl rfl L3.out ?_
        simp only [List.getElem_toArray, List.getElem_cons_succ, List.getElem_cons_zero, Act.put, List.setIfInBounds_toArray, List.set_cons_zero, List.set_cons_succ]
        refine lexH_yieldE rfl rfl ?_
        apply Exists.intro
        refine ⟨fun W hW => ?_, ?_⟩
        focus (go_simp; exact rfl)
        simp only [List.getElem_toArray, List.getElem_cons_succ, List.getElem_cons_zero, Act.put, List.setIfInBounds_toArray, List.set_cons_zero, List.set_cons_succ]
        refine lexH_yieldE rfl rfl ?_
        apply Exists.intro
        refine ⟨fun W hW => ?_, ?_⟩
        focus (go_simp; exact rfl)
        simp only [List.getElem_toArray, List.getElem_cons_succ, List.getElem_cons_zero, Act.put, List.setIfInBounds_toArray, List.set_cons_zero, List.set_cons_succ]
        refine lexH_yieldE rfl rfl ?_
        apply Exists.intro
        refine ⟨fun W hW => ?_, ?_⟩
        focus (go_simp; exact rfl)
        simp only [List.getElem_toArray, List.getElem_cons_succ, List.getElem_cons_zero, Act.put, List.setIfInBounds_toArray, List.set_cons_zero, List.set_cons_succ]
        refine lexH_yieldE rfl rfl ?_
        apply Exists.intro
        refine ⟨fun W hW => ?_, ?_⟩
        focus (go_simp; exact rfl)
        simp only [List.getElem_toArray, List.getElem_cons_succ, List.getElem_cons_zero, Act.put, List.setIfInBounds_toArray, List.set_cons_zero, List.set_cons_succ]
        refine lexH_yieldE rfl rfl ?_
        apply Exists.intro
        refine ⟨fun W hW => ?_, ?_⟩
        focus (go_simp; exact rfl)
        simp only [List.getElem_toArray, List.getElem_cons_succ, List.getElem_cons_zero, Act.put, List.setIfInBounds_toArray, List.set_cons_zero, List.set_cons_succ]
        refine lexH_nil ?_
        have hpg2 : 1 ≤ P ∧ P ≤ 8 ∧ Q ≤ 1023 := by
          obtain ⟨a1, a2, a3, a4⟩ := hpg
          omega
        have hfm : fmO f N ((P : Int), (Q : Int)) = (findF f (P, Q) N).map (fun (i : Nat) => (i : Int)) := by
          unfold fmO
          dsimp only
          rw [if_pos ⟨by omega, by omega⟩, Int.toNat_natCast, Int.toNat_natCast]
        have HB4 := Lib.hid (show Below w.heap.size w W0 from by rw [hW0]; exact below_drewN HB3.out 1)
        cases hs : findF f (P, Q) N with
        | some i =>
          have e1 : rsE f N X P Q = 8 := by
            unfold rsE
            rw [if_pos ⟨hx, hpg⟩, Int.toNat_natCast, Int.toNat_natCast, Int.toNat_natCast, hy, hs]
            rfl
          have e2 : rsF f N X P Q = f := if_neg (by rw [e1]; decide)
          have HE1 := Lib.hid e1
          have HE2 := Lib.hid e2
          rw [hfm, hs]
          clear e1 e2 hfm hs hy hpg hpg2 L1 L2 L3
          simp only [Option.map_some, Option.getD_some, Option.isSome_some]
          generalize ((i : Nat) : Int) = fi
          go_wp2_with (fail)
          go_ret
          rw [HE1.out, HE2.out]
          exact MpT.same HA.out HB4.out
        | none =>
          have e1 : rsE f N X P Q = 0 := by
            unfold rsE
            rw [if_pos ⟨hx, hpg⟩, Int.toNat_natCast, Int.toNat_natCast, Int.toNat_natCast, hy, hs]
            rfl
          have e2 : rsF f N X P Q = updO f X (P, Q) := by
            unfold rsF
            rw [if_pos e1]
            simp
          have HE1 := Lib.hid e1
          have HE2 := Lib.hid e2
          have HA4 := Lib.hid (HA.out.later HB4.out)
          have hFM := Lib.hid (fun y => fmO_set (f := f) (N := N) (X := X) (P := P) (Q := Q) hlt hpg2.1 (by rw [hy]) hs y)
          have B04 := Lib.hid (show W0.cell? ⟨w.heap.size, 0, none⟩ = some (.int .i64 (P : Int)) from by rw [hW0]; exact B0.out)
          have B14 := Lib.hid (show W0.cell? ⟨w.heap.size, 1, none⟩ = some (.int .i64 (Q : Int)) from by rw [hW0]; exact B1.out)
          rw [hfm, hs]
          simp only [Option.map_none, Option.getD_none, Option.isSome_none]
          have HOK := Lib.hid (show (Lit.int .i64 (P : Int)).wf = true ∧ (Lit.int .i64 (Q : Int)).wf = true ∧ (Lit.int .i64 (X : Int)).wf = true from ⟨int_wf hp, int_wf hq, int_wf (by have := I.le; omega)⟩)
          have HNL := Lib.hid (show N < maxLen from by have := I.le; unfold maxLen; omega)
          clear L1 L2 L3 hfm hs hy e1 e2 hpg hpg2 hno hp hq hx I HB3 HA3 B0 B1 HA1 HB
          go_wp2_with (fail)
          have M0 := Lib.hid (show ∀ W, W = W0.drew → (loadVar 50 ⟨d, 0, none⟩).run Try.prog W = .ok (.slice (some ⟨g, 0, none⟩) N c) W from fun W hW => by
            subst hW
            rw [← HV.out]
            exact run_loadVar_cell (fun _ => by kernel_rfl) HA4.out.c0)
          have M2 := Lib.hid (show ∀ W, W = W0.drew → (loadVar 57 ⟨w.heap.size, 0, none⟩).run Try.prog W = .ok (.agg #[.int .i64 (P : Int), .int .i64 (Q : Int)]) W from fun W hW => by
            subst hW
            exact load_ow B04.out B14.out)
          refine wp_region_lexF (fun W => W = W0.drew) [(0, false), (1, false), (2, false), (3, false), (4, false), (5, false), (6, false)] 7 (by kernel_rfl) (by kernel_rfl) rfl (by kernel_rfl) rfl ?_
          intro W1 hW1 _
          refine lexH_yieldE rfl rfl ?_
          apply Exists.intro
          refine ⟨fun W hW => ?_, ?_⟩
          focus (go_simp; exact rfl)
          simp only [List.getElem_toArray, List.getElem_cons_zero, Act.put, List.setIfInBounds_toArray, List.set_cons_zero, List.set_cons_succ]
          refine lexH_yieldE rfl rfl ?_
          apply Exists.intro
          refine ⟨fun W hW => ?_, ?_⟩
          focus (go_simp; exact rfl)
          simp only [List.getElem_toArray, List.getElem_cons_succ, List.getElem_cons_zero, Act.put, List.setIfInBounds_toArray, List.set_cons_zero, List.set_cons_succ]
          refine lexH_yieldE rfl rfl ?_
          apply Exists.intro
          refine ⟨fun W hW => ?_, ?_⟩
          focus (go_simp; exact rfl)
          simp only [List.getElem_toArray, List.getElem_cons_succ, List.getElem_cons_zero, Act.put, List.setIfInBounds_toArray, List.set_cons_zero, List.set_cons_succ]
          refine lexH_load rfl rfl _ _ rfl rfl M0.out ?_
          simp only [List.getElem_toArray, List.getElem_cons_succ, List.getElem_cons_zero, Act.put, List.setIfInBounds_toArray, List.set_cons_zero, List.set_cons_succ]
          refine lexH_yieldE rfl rfl ?_
          apply Exists.intro
          refine ⟨fun W hW => ?_, ?_⟩
          focus (go_simp; exact rfl)
          simp only [List.getElem_toArray, List.getElem_cons_succ, List.getElem_cons_zero, Act.put, List.setIfInBounds_toArray, List.set_cons_zero, List.set_cons_succ]
          refine lexH_load rfl rfl _ _ rfl rfl M2.out ?_
          simp only [List.getElem_toArray, List.getElem_cons_succ, List.getElem_cons_zero, Act.put, List.setIfInBounds_toArray, List.set_cons_zero, List.set_cons_succ]
          refine lexH_yieldE rfl rfl ?_
          apply Exists.intro
          refine ⟨fun W hW => ?_, ?_⟩
          focus (go_simp; exact rfl)
          simp only [List.getElem_toArray, List.getElem_cons_succ, List.getElem_cons_zero, Act.put, List.setIfInBounds_toArray, List.set_cons_zero, List.set_cons_succ]
          refine lexH_last rfl rfl ?_
          have HB5 := Lib.hid (show Below w.heap.size w W1 from by rw [hW1]; exact below_drewN HB4.out 1)
          have HA5 := Lib.hid (HA.out.later HB5.out)
          have HTH := Lib.hid (HA5.out.there HV.out hlt)
          have B05 := Lib.hid (show W1.cell? ⟨w.heap.size, 0, none⟩ = some (.int .i64 (P : Int)) from by rw [hW1]; exact B04.out)
          have B15 := Lib.hid (show W1.cell? ⟨w.heap.size, 1, none⟩ = some (.int .i64 (Q : Int)) from by rw [hW1]; exact B14.out)
          clear M0 M2 hW1 hW0 HA4 HB4 B04 B14
          refine wp_store_mid _ _ _ rfl g (X * 2) _ rfl rfl HTH.out sizeOw (by simp [Value.oneCell']) ?_
          obtain ⟨W2, hW2⟩ : ∃ W2, W2 = (W1.setCell ⟨g, X * 2, none⟩ (.int .i64 (P : Int))).setCell ⟨g, X * 2 + 1, none⟩ (.int .i64 (Q : Int)) := ⟨_, rfl⟩
          rw [show W1.setCells g (X * 2) (#[Value.int .i64 (P : Int), Value.int .i64 (Q : Int)] : Array Value).toList = W2 from hW2.symm]
          have HBG := Lib.hid (show w.heap.size ≠ g from fun e => by
            have := HA.out.lt (k := g) (.inr (.inl (by rw [HV.out]; rfl)))
            omega)
          have HO2 := Lib.hid (show Only (fun k => k = g) W1 W2 from by
            rw [hW2]
            exact (Only.setCell (S := fun k => k = g) W1 ⟨g, X * 2, none⟩ rfl _).trans (Only.setCell (S := fun k => k = g) _ ⟨g, X * 2 + 1, none⟩ rfl _))
          have HGD := Lib.hid (show d ≠ g from fun e => HA.out.pv (by rw [HV.out, e]; rfl))
          have HGM := Lib.hid (show mb ≠ g from fun e => HA.out.vm (by rw [HV.out, e]; rfl))
          have B06 := Lib.hid (HO2.out.cell HBG.out B05.out)
          have B16 := Lib.hid (HO2.out.cell HBG.out B15.out)
          have C16 := Lib.hid (HO2.out.cell HGD.out HA5.out.c1)
          have M6 := Lib.hid (HA5.out.mp.only HO2.out HGM.out)
          clear B05 B15 HTH
          go_wp2_with (fail)
          have M1 := Lib.hid (show ∀ W, W = W2.drew → (loadVar 51 ⟨d, 1, none⟩).run Try.prog W = .ok (.map (some mb)) W from fun W hW => by
            subst hW
            exact run_loadVar_cell (fun _ => by kernel_rfl) C16.out)
          have M2 := Lib.hid (show ∀ W, W = W2.drew → (loadVar 57 ⟨w.heap.size, 0, none⟩).run Try.prog W = .ok (.agg #[.int .i64 (P : Int), .int .i64 (Q : Int)]) W from fun W hW => by
            subst hW
            exact load_ow B06.out B16.out)
          refine wp_region_lexF (fun W => W = W2.drew) [(0, false), (1, false), (2, false), (3, false), (4, false), (5, false)] 6 (by kernel_rfl) (by kernel_rfl) rfl (by kernel_rfl) rfl ?_
          intro W3 hW3 _
          refine lexH_yieldE rfl rfl ?_
          apply Exists.intro
          refine ⟨fun W hW => ?_, ?_⟩
          focus (go_simp; exact rfl)
          simp only [List.getElem_toArray, List.getElem_cons_zero, Act.put, List.setIfInBounds_toArray]
          refine lexH_yieldE rfl rfl ?_
          apply Exists.intro
          refine ⟨fun W hW => ?_, ?_⟩
          focus (go_simp; exact rfl)
          simp only [List.getElem_toArray, List.getElem_cons_succ, List.getElem_cons_zero, Act.put, List.setIfInBounds_toArray, List.set_cons_zero, List.set_cons_succ]
          refine lexH_yieldE rfl rfl ?_
          apply Exists.intro
          refine ⟨fun W hW => ?_, ?_⟩
          focus (go_simp; exact rfl)
          simp only [List.getElem_toArray, List.getElem_cons_succ, List.getElem_cons_zero, Act.put, List.setIfInBounds_toArray, List.set_cons_zero, List.set_cons_succ]
          refine lexH_load rfl rfl _ _ rfl rfl M1.out ?_
          simp only [List.getElem_toArray, List.getElem_cons_succ, List.getElem_cons_zero, Act.put, List.setIfInBounds_toArray, List.set_cons_zero, List.set_cons_succ]
          refine lexH_load rfl rfl _ _ rfl rfl M2.out ?_
          simp only [List.getElem_toArray, List.getElem_cons_succ, List.getElem_cons_zero, Act.put, List.setIfInBounds_toArray, List.set_cons_zero, List.set_cons_succ]
          refine lexH_yieldE rfl rfl ?_
          apply Exists.intro
          refine ⟨fun W hW => ?_, ?_⟩
          focus (go_simp; exact rfl)
          simp only [List.getElem_toArray, List.getElem_cons_succ, List.getElem_cons_zero, Act.put, List.setIfInBounds_toArray, List.set_cons_zero, List.set_cons_succ]
          refine lexH_last rfl rfl ?_
          have HO3 := Lib.hid (show Below W2.heap.size W2 W3 from by rw [hW3]; exact below_drewN (Below.refl _ _) 1)
          obtain ⟨W4, hrun, h4, ho4⟩ := (M6.out.later HO3.out).store (t := 51) Try.underlying51 (m := N) (fun l hn hl => fmO_count hn (fun x hx => (hl x hx).2)) HNL.out (x := ((P : Int), (Q : Int))) ⟨HOK.out.1, HOK.out.2.1⟩ (c := (X : Int)) HOK.out.2.2
          have hrun : (Instr.mapUpdate 51 (.map (some mb)) (.agg #[.int .i64 (P : Int), .int .i64 (Q : Int)]) (.int .i64 (X : Int))).run Try.prog W3 = .ok () W4 := hrun
          have HT := Lib.hid (OwAt.turn HA.out HB5.out HV.out X P Q hW2 h4 ((Only.of_below HO3.out).trans ho4) (fun y => hFM.out y))
          clear h4 ho4 M1 M2 hW3 HO3 M6 C16 B06 B16 hW2 HO2
          refine wp_upd_run rfl rfl rfl rfl hrun ?_
          clear hrun
          go_wp2_with (fail)
          go_ret
          rw [HE1.out, HE2.out]
          exact ⟨rfl, HT.out⟩
      · have e1 : rsE f N X P Q = 80 := by
          unfold rsE
          rw [if_pos ⟨hx, hpg⟩, Int.toNat_natCast, hy, if_pos h0]
        have e2 : rsF f N X P Q = f := if_neg (by rw [e1]; decide)
        rw [e1, e2]
        have hq2 := fun W => ow_yesN (x := (y1 : Int)) (y := (y2 : Int)) (by omega) W
        clear e1 e2 hno hy I hx hpg
        generalize (y1 : Int) = a at *
        generalize (y2 : Int) = b at *
        go_enter Try.func12, Try.ntmps12
        go_wp2_with (fail)
        refine HM.out.mono ?_
        rintro e w1 ⟨rfl, rfl⟩
        go_wp2_with (fail)
        generalize w.alloc (.cells #[.int .i64 (P : Int), .int .i64 (Q : Int)] 57) = w2 at *
        refine HH.out.mono ?_
        rintro e w1 ⟨rfl, rfl⟩
        go_wp2_with (fail)
        refine (HY.out _).mono ?_
        rintro e w3 ⟨rfl, hb⟩
        have k0 := (hb.cell (p := ⟨g, X * 2, none⟩) (World.block_lt_of_cell? _ _ k0)).trans k0
        have k1 := (hb.cell (p := ⟨g, X * 2 + 1, none⟩) (World.block_lt_of_cell? _ _ k1)).trans k1
        have c0 := (hb.cell (p := ⟨d, 0, none⟩) (World.block_lt_of_cell? _ _ c0)).trans c0
        have HB3 := Lib.hid (HB.out.trans (hb.mono HB.out.size))
        clear hb
        go_wp2_with (fail)
        go_ret
        exact MpT.same HA.out HB3.out
    · rw [decide_eq_false hpg] at HY
      have e1 : rsE f N x p q = 2 := if_neg (fun h => hpg h.2)
      have e2 : rsF f N x p q = f := if_neg (by rw [e1]; decide)
      rw [e1, e2]
      clear e1 e2 hx hpg I h
      go_enter Try.func12, Try.ntmps12
      go_wp2_with (fail)
      refine HM.out.mono ?_
      rintro e w1 ⟨rfl, rfl⟩
      go_wp2_with (fail)
      generalize w.alloc (.cells #[.int .i64 p, .int .i64 q] 57) = w2 at *
      refine HH.out.mono ?_
      rintro e w1 ⟨rfl, rfl⟩
      go_wp2_with (fail)
      refine (HY.out _).mono ?_
      rintro e w3 ⟨rfl, hb⟩
      have HB3 := Lib.hid (HB.out.trans (hb.mono HB.out.size))
      clear hb
      go_wp2_with (fail)
      go_ret
      exact MpT.same HA.out HB3.out
  · rw [decide_eq_false hx] at HH
    have e1 : rsE f N x p q = 2 := if_neg (fun h => hx h.1)
    have e2 : rsF f N x p q = f := if_neg (by rw [e1]; decide)
    rw [e1, e2]
    clear e1 e2 hx I h
    go_enter Try.func12, Try.ntmps12
    go_wp2_with (fail)
    refine HM.out.mono ?_
    rintro e w1 ⟨rfl, rfl⟩
    go_wp2_with (fail)
    generalize w.alloc (.cells #[.int .i64 p, .int .i64 q] 57) = w2 at *
    refine HH.out.mono ?_
    rintro e w1 ⟨rfl, rfl⟩
    go_wp2_with (fail)
    go_ret
    exact MpT.same HA.out HB.out
end
end Go.Proofs.Ytjjcbbnnilafdaa
