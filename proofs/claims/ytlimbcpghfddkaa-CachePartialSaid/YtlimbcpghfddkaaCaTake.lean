/-
  cache: Take of the landed one.
-/
import Derived.Test.YtlimbcpghfddkaaCaCat
import Derived.Test.YtlimbcpghfddkaaCaRefT
namespace Go.Proofs.Ytlimbcpghfddkaa
open Go.RowKit Go Go.Maps

/-- A look-up among what only reads. -/
theorem run_look1_fmap {P : Program} {w : World} {k e t : TypeId} (hk : P.underlying k = some (.int .i64)) (ht : P.underlying t = some (.map k e)) {R : Value → Option (MDat × List MemPlace)} {α : Type} (E : Elem R α) (z : α) (hzo : E.ok z) (hz : (zeroValue e).run P w = .ok (E.v z) w) {b : Nat} {f : Int → Option α} (hown : FMap P k E w b f) {x : Int} (hx : (Lit.int .i64 x).wf = true) :
    (Instr.lookup t (.map (some b)) (.int .i64 x) false).run P w = .ok (E.v ((f x).getD z)) w := by
  obtain ⟨zp, hzd⟩ := E.says z hzo
  obtain ⟨D, l, ho, h1, h2, _⟩ := hown
  obtain ⟨v, ps, hrun, hv⟩ := ho.lookup (Maps.int_keyed hk) ht hz hzd (Maps.keyOf_int_mk hk hx)
  have e1 : D.atKey (.int .i64 x) (E.g z) = E.g ((f x).getD z) := by
    have h3 : Maps.has D (.int .i64 x) = ((f x).map E.g).isSome := h1 x
    have h4 : ∀ d, (f x).map E.g = some d → ∀ z, D.atKey (.int .i64 x) z = d := h2 x
    cases hf : f x with
    | none =>
      rw [hf] at h3
      rw [Maps.atKey_of_not_has h3]; rfl
    | some c => rw [h4 (E.g c) (by rw [hf]; rfl)]; rfl
  rw [e1] at hv
  rw [E.inv v _ ps hv] at hrun
  exact hrun
theorem lexH_look {P : Program} {ops : Array Oper} {Q : Exit → Act → World → Prop} {S : World → Prop} {K : Act → World → Prop} {i : Nat} {r : List (Nat × Bool)} {a : Act} {w : World} {o : Oper} {v : Value} (hi : ops[i]? = some o) (hw : Region.wanted o (yielded ops a.tmps) = true) (t : TypeId) (m y : Operand) (ho : o.op = .lookup t m y false)
    (hv : ∀ W, S W → (Instr.lookup t (a.eval m) (a.eval y) false).run P W = .ok v W) (h : LexH P ops Q S K r (a.put o.dst v) w) : LexH P ops Q S K ((i, false) :: r) a w :=
  lexH_yield hi hw (fun W hW => by unfold execOp; simp only [ho, Sem.run_bind, Sem.run_pure, Result.andThen_ok, hv W hW]) h
section
variable {w W : World} {K : KC} {A : Ca}
def KPost3 (w : World) (K : KC) (A : Ca) (q : Int × Int × Int × Ca) (e : Ending) (w' : World) : Prop :=
  e = .returned (.tuple #[.int .i64 q.1, .int .i64 q.2.1, .int .i64 q.2.2.1]) ∧ ∃ K', KTurn w K A noB (fun x => (K.g x).b) K' q.2.2.2 w'
set_option maxRecDepth 100000 in
set_option maxHeartbeats 8000000 in
theorem ktake_any (R : CaAt w K A) (hl : A.L.length ≤ 1000) : Calls Try.prog 15 #[.pointer (some ⟨K.c, 0, none⟩)] w (KPost3 w K A A.take) := by
  have HM := Lib.hid (kmissing_any R)
  have HR := Lib.hid R
  have HT1 := Lib.hid (those_any R hl _ (enters_of Try.func41 (by kernel_rfl) rfl) ask_partial)
  have hpk := pick_head A.L
  clear R
  go_enter Try.func15, Try.ntmps15
  go_wp2_with (fail)
  refine HM.out.mono ?_
  rintro e w' ⟨rfl, rfl⟩
  go_wp2_with (fail)
  refine HT1.out.mono ?_
  rintro e w1 ⟨v1, rfl, hown1, hb1⟩
  have HO1 := Lib.hid hown1
  have HB1 := Lib.hid hb1
  have HT2 := Lib.hid (those_any (HR.out.later hb1) hl _ (enters_of Try.func42 (by kernel_rfl) rfl) ask_empty)
  clear hown1 hb1 HT1 HM
  go_wp2_with (fail)
  refine HT2.out.mono ?_
  rintro e w2 ⟨v2, rfl, hown2, hb2⟩
  have HB2 := Lib.hid (HB1.out.trans (hb2.mono HB1.out.size))
  have HS1 := Lib.hid (SrcI.of_owns (owns_later HO1.out hb2))
  have HS2 := Lib.hid (SrcI.of_owns hown2)
  have hba : Below w2.heap.size w2 (w2.alloc (.cells #[v1, v2] 52)) := (Below.refl _ _).alloc (Nat.le_refl _) _
  obtain ⟨q1, q2, e1, _⟩ := HS1.out
  obtain ⟨q3, q4, e2, _⟩ := HS2.out
  subst e1
  subst e2
  have HCC := Lib.hid (concat_any (sb := w2.heap.size) (HS1.out.later hba) (HS2.out.later hba) (Nat.le_trans (frsL_len _ _) hl) (Nat.le_trans (frsL_len _ _) hl) (by rw [cell_of_row _ _ _ _ _ _ (heap_alloc_new w2 _)]; rfl) (by rw [cell_of_row _ _ _ _ _ _ (heap_alloc_new w2 _)]; rfl))
  have HB3 := Lib.hid (HB2.out.trans (hba.mono HB2.out.size))
  clear hown2 hb2 HT2 HO1 HB1 HS1 HS2 hba
  generalize frsL Pl.prt A.L = l1 at *
  generalize frsL Pl.emp A.L = l2 at *
  go_wp2_with (fail)
  refine HCC.out.mono ?_
  rintro e w3 ⟨v, rfl, hown, hb⟩
  have HB4 := Lib.hid (HB3.out.trans (hb.mono HB3.out.size))
  have HOW := Lib.hid (owns_base hown (fun k hk => Nat.le_trans HB3.out.size (hown.lt k hk).1))
  have HR4 := Lib.hid (HR.out.later HB4.out)
  clear hown hb HCC HB3 HB2
  cases hp : pickL A.L with
  | none =>
    have hz : A.take = (0, 0, 7, A) := by unfold Ca.take; rw [hp]
    rw [hp] at hpk
    have hnil : l1 ++ l2 = [] := List.head?_eq_none_iff.1 hpk
    obtain ⟨a, c, rfl, _⟩ := owns_slice HOW.out
    have HP := Lib.hid (show KPost3 w K A A.take (.returned (.tuple #[.int .i64 0, .int .i64 0, .int .i64 7])) w3 from by
      rw [hz]
      exact ⟨rfl, K, (KTurn.same HR.out).later HB4.out⟩)
    rw [hnil]
    clear hz hp hpk hnil HOW
    go_wp2_with (fail)
    go_ret3
    exact HP.out
  | some p =>
    rw [hp] at hpk
    obtain ⟨l, hll⟩ : ∃ l, l1 ++ l2 = p.fr :: l := by
      cases h : l1 ++ l2 with
      | nil => rw [h] at hpk; cases hpk
      | cons x r =>
        rw [h] at hpk
        injection hpk with hpk
        exact ⟨r, by rw [hpk]⟩
    rw [hll] at HOW
    have hm := pick_mem hp
    have hS := HR4.out.fam.at_ p hm
    have hI := HR4.out.inv.inv p hm
    have hfr := pick_free hp hI
    have h0 := take_ok hfr
    have hwf := HR4.out.wf p hm
    have hfind := findL_of HR4.out.inv.rise hm
    obtain ⟨a, c, hv, hrow⟩ := owns_slice HOW.out
    obtain ⟨g, rfl, hg, hgo, B, t, hB, hx⟩ := hrow (by simp)
    subst hv
    have hgl : w.heap.size ≤ g := hg
    have cg : w3.cell? ⟨g, 0, none⟩ = some (.int .i64 p.fr) := by
      rw [cell_of_row _ _ _ _ _ _ hB]
      exact hx 0 (by simp)
    have hK := HR4.out.c2
    have hne : ∀ k, (K.g p.fr).all k → k ≠ g := fun k hk e => by
      have := HR.out.lt k (.inr ⟨p, hm, hk⟩)
      omega
    have HZ := Lib.hid (show A.take = (p.fr, p.S.take.1, 0, A.turned p.fr p.S.take.2.2) by unfold Ca.take; rw [hp])
    have HD := Lib.hid (show Below w3.heap.size w3 w3.drew from (Below.refl _ _).drew)
    have hoff : ∀ k, K.hd k → ¬ (K.g p.fr).all k := fun k hk hx => HR.out.fam.off p hm k hx hk
    have L0 := Lib.hid (show ∀ V, Only (K.g p.fr).all w3.drew V → (loadVar 57 ⟨K.c, 2, none⟩).run Try.prog V = .ok (.map (some K.m)) V from fun V hV => run_loadVar_cell (fun _ => by kernel_rfl) (hV.cell (hoff _ (.inl rfl)) hK))
    have L1 := Lib.hid (show ∀ V, Only (K.g p.fr).all w3.drew V → (loadVar 3 ⟨g, 0, none⟩).run Try.prog V = .ok (.int .i64 p.fr) V from fun V hV => run_loadVar_cell (fun _ => by kernel_rfl) (hV.cell (fun h => hne g h rfl) cg))
    have L2 := Lib.hid (show ∀ V, Only (K.g p.fr).all w3.drew V → (Instr.lookup 57 (.map (some K.m)) (.int .i64 p.fr) false).run Try.prog V = .ok (.pointer (some ⟨(K.g p.fr).s, 0, none⟩)) V from fun V hV => by
      have h := run_look1_fmap (P := Try.prog) (w := V) (t := 57) Try.underlying3 Try.underlying57 elemPtr none trivial (zeroSlab _) ((HR4.out.later HD.out).map.only hV (hoff _ (.inr rfl))) hwf
      rw [look_S, hfind] at h
      exact h)
    have HTK := Lib.hid (show Calls Try.prog 43 #[.pointer (some ⟨(K.g p.fr).s, 0, none⟩)] w3.drew fun e w' => e = .returned (.tuple #[.int .i64 p.S.take.1, .int .i64 0]) ∧ Only (K.g p.fr).all w3.drew w' ∧ KPost3 w K A A.take (.returned (.tuple #[.int .i64 p.fr, .int .i64 p.S.take.1, .int .i64 0])) w' ∧ w'.cell? ⟨g, 0, none⟩ = some (.int .i64 p.fr) from by
      refine (chain_ok.take (chain_ok.later hS HD.out)).mono ?_
      rintro e V2 ⟨rfl, h1, h2⟩
      have hT := (HR4.out.later HD.out).turn hm h1 h2 hI.take (take_sz _)
      refine ⟨by rw [h0], h2, ?_, h2.cell (fun h => hne g h rfl) cg⟩
      rw [HZ.out]
      have hb5 := HB4.out.trans (HD.out.mono HB4.out.size)
      exact ⟨rfl, K, hT.at_, hT.c, (Only.of_below hb5).trans hT.only, fun k hk => (hT.new k hk).elim .inl (fun h => h.elim (fun h => .inr (.inl h)) (fun h => .inr (.inr (Nat.le_trans hb5.size h)))), hT.b, hT.keep, hT.sub⟩)
    have HL := Lib.hid hll
    clear hpk hp hm hS hI hfr hwf hfind hgo hB hx hK hne HOW hll hg hoff h0
    have hlen : (((p.fr :: l).length : Nat) : Int) = (l.length : Int) + 1 := by simp
    have hl1 : (p.fr :: l).length = l.length + 1 := rfl
    rw [hl1]
    clear hlen
    have h00 : ¬ ((l.length + 1 : Nat) : Int) = 0 := by omega
    have hbq : (((l.length + 1 : Nat) : Int) == 0) = false := by rw [beq_eq_false_iff_ne]; omega
    obtain ⟨n, hn⟩ : ∃ n, l.length + 1 = n := ⟨_, rfl⟩
    have hnpI : (0 : Int) < (n : Int) := by omega
    have hnp : 0 < n := by omega
    rw [hn] at hbq h00 ⊢
    clear hn hl1
    generalize p.S.take.1 = iq at *
    generalize p.fr = fq at *
    go_wp2_with (fail)
    refine wp_region_lex1 (Only (K.g fq).all w3.drew) [(0, false), (1, false), (2, false), (3, false), (4, false), (5, false), (6, false), (7, false), (8, true), (9, false), (10, false), (11, false), (12, false), (13, false)]
      (by kernel_rfl) (by kernel_rfl) rfl (by kernel_rfl) (Only.refl _ _) ?_
    intro V0 hV0 hK0
    clear hK0
    subst hV0
    refine lexH_yieldE rfl rfl ?_
    apply Exists.intro
    refine ⟨fun W hW => ?_, ?_⟩
    focus (go_simp; exact rfl)
    simp only [List.getElem_toArray, List.getElem_cons_zero, Act.put, List.setIfInBounds_toArray, List.set_cons_zero, List.set_cons_succ]
    refine lexH_yieldE rfl rfl ?_
    apply Exists.intro
    refine ⟨fun W hW => ?_, ?_⟩
    focus (go_simp; exact rfl)
    simp only [List.getElem_toArray, List.getElem_cons_succ, List.getElem_cons_zero, Act.put, List.setIfInBounds_toArray, List.set_cons_zero, List.set_cons_succ]
    refine lexH_yieldE rfl rfl ?_
    apply Exists.intro
    refine ⟨fun W hW => ?_, ?_⟩
    focus (go_simp; exact rfl)
    simp only [List.getElem_toArray, List.getElem_cons_succ, List.getElem_cons_zero, Act.put, List.setIfInBounds_toArray, List.set_cons_zero, List.set_cons_succ]
    refine lexH_load rfl rfl _ _ rfl rfl L0.out ?_
    simp only [List.getElem_toArray, List.getElem_cons_succ, List.getElem_cons_zero, Act.put, List.setIfInBounds_toArray, List.set_cons_zero, List.set_cons_succ]
    refine lexH_yieldE rfl rfl ?_
    apply Exists.intro
    refine ⟨fun W hW => ?_, ?_⟩
    focus (go_simp; exact rfl)
    simp only [List.getElem_toArray, List.getElem_cons_succ, List.getElem_cons_zero, Act.put, List.setIfInBounds_toArray, List.set_cons_zero, List.set_cons_succ]
    refine lexH_yieldE rfl rfl ?_
    apply Exists.intro
    refine ⟨fun W hW => ?_, ?_⟩
    focus (go_simp; exact rfl)
    simp only [List.getElem_toArray, List.getElem_cons_succ, List.getElem_cons_zero, Act.put, List.setIfInBounds_toArray, List.set_cons_zero, List.set_cons_succ]
    refine lexH_load rfl rfl _ _ rfl rfl L1.out ?_
    simp only [List.getElem_toArray, List.getElem_cons_succ, List.getElem_cons_zero, Act.put, List.setIfInBounds_toArray, List.set_cons_zero, List.set_cons_succ]
    refine lexH_look rfl rfl _ _ _ rfl L2.out ?_
    simp only [List.getElem_toArray, List.getElem_cons_succ, List.getElem_cons_zero, Act.put, List.setIfInBounds_toArray, List.set_cons_zero, List.set_cons_succ]
    refine lexH_call 43 #[.pointer (some ⟨(K.g fq).s, 0, none⟩)] rfl rfl ?_ ?_
    focus (go_simp; done)
    refine HTK.out.mono ?_
    rintro e w5 ⟨rfl, h2, hP, cg5⟩
    have HP := Lib.hid hP
    refine ⟨_, rfl, h2, ?_⟩
    clear hP h2 L0 L1 L2 HTK HD cg
    simp only [List.getElem_toArray, List.getElem_cons_succ, List.getElem_cons_zero, Act.put, List.setIfInBounds_toArray, List.set_cons_zero, List.set_cons_succ]
    refine lexH_yieldE rfl rfl ?_
    apply Exists.intro
    refine ⟨fun W hW => ?_, ?_⟩
    focus (go_simp; exact rfl)
    simp only [List.getElem_toArray, List.getElem_cons_succ, List.getElem_cons_zero, Act.put, List.setIfInBounds_toArray, List.set_cons_zero, List.set_cons_succ]
    refine lexH_yieldE rfl rfl ?_
    apply Exists.intro
    refine ⟨fun W hW => ?_, ?_⟩
    focus (go_simp; exact rfl)
    simp only [List.getElem_toArray, List.getElem_cons_succ, List.getElem_cons_zero, Act.put, List.setIfInBounds_toArray, List.set_cons_zero, List.set_cons_succ]
    refine lexH_yieldE rfl rfl ?_
    apply Exists.intro
    refine ⟨fun W hW => ?_, ?_⟩
    focus (go_simp; exact rfl)
    simp only [List.getElem_toArray, List.getElem_cons_succ, List.getElem_cons_zero, Act.put, List.setIfInBounds_toArray, List.set_cons_zero, List.set_cons_succ]
    refine lexH_yieldE rfl rfl ?_
    apply Exists.intro
    refine ⟨fun W hW => ?_, ?_⟩
    focus (go_simp; exact rfl)
    simp only [List.getElem_toArray, List.getElem_cons_succ, List.getElem_cons_zero, Act.put, List.setIfInBounds_toArray, List.set_cons_zero, List.set_cons_succ]
    refine lexH_yieldE rfl rfl ?_
    apply Exists.intro
    refine ⟨fun W hW => ?_, ?_⟩
    focus (go_simp; exact rfl)
    simp only [List.getElem_toArray, List.getElem_cons_succ, List.getElem_cons_zero, Act.put, List.setIfInBounds_toArray, List.set_cons_zero, List.set_cons_succ]
    refine lexH_nil ?_
    go_wp2_with (fail)
    go_ret3
    exact HP.out
end
end Go.Proofs.Ytlimbcpghfddkaa
