/-
  areas' laws: same: all runs of some areas are the document's.
-/
import Derived.Test.YthnkbipdlepbaaaArKnown
import Derived.Test.YthnkbipdlepbaaaLexIn
import Derived.Deep.DeepCutAuto
import Derived.Deep.CutBlock
namespace Go.Proofs.Ythnkbipdlepbaaa
open Go.RowKit Go.Shelf Go
attribute [local go_sem] Oper.semAt_some

/-- How many have been told: counted in block nb. -/
structure CnAt (W0 : World) (nb : Nat) {n : Nat} (pre : List (Fin n)) (W : World) : Prop where
  cn : W.cell? ⟨nb, 0, none⟩ = some (.int .i64 pre.length)
  fn : W.frozen? ⟨nb, 0, none⟩ = false
  only : Only (fun k => k = nb) W0 W
theorem cn_own {W0 : World} {nb n : Nat} (h : nb < W0.heap.size) : OwnFrom W0.heap.size (CnAt W0 nb (n := n)) := fun s X Y row i hg hr => by
  have hne : some nb ≠ row := fun e => by have := (hr nb e.symm).1; omega
  have hb := hg.block nb (World.block_lt_of_cell? _ _ i.cn) hne
  refine ⟨by rw [World.cell?_of_block (w := X) (a := ⟨nb, 0, none⟩) hb]; exact i.cn, by rw [World.frozen?_of_block (w := X) (a := ⟨nb, 0, none⟩) hb]; exact i.fn,
    ⟨hg.os.trans i.only.os, hg.tape.trans i.only.tape, hg.output.trans i.only.output, Nat.le_trans i.only.size hg.size, fun k hk hs => (hg.block k (Nat.lt_of_lt_of_le hk i.only.size) (fun e => by have := (hr k e.symm).1; omega)).trans (i.only.block k hk hs)⟩⟩
theorem CnAt.later {W0 W W' : World} {nb n : Nat} {pre : List (Fin n)} (h : CnAt W0 nb pre W) (hb : Below W.heap.size W W') : CnAt W0 nb pre W' :=
  ⟨by rw [hb.cell (World.block_lt_of_cell? _ _ h.cn)]; exact h.cn, by rw [hb.frozen (World.block_lt_of_cell? _ _ h.cn)]; exact h.fn, h.only.trans (Only.of_below hb)⟩
/-- All but block rc is as it was; that lies there. -/
def OkS (rc : Nat) (W U : World) : Prop := Only (fun k => k = rc) W U ∧ ∃ f, RowAt U rc 1 f
/-- A range whose body breaks off at once. -/
theorem range_brk {g : Nat} {lb : Array Value} {L : Rns} {own : Nat → Prop} {w : World} (m : Nat) (hm : 8 ≤ m) (T : Tells Try.prog g lb (fun x => #[runV x]) L own w) (hent : ∀ args W, (callFunc g args).run Try.prog W = .ok (.enter g args) W)
    (hown : ∀ k, own k → k < w.heap.size) (id b : Nat) {gg : Operand} {t : Tmp} {Q0 : Exit → Act → World → Prop} {a : Act} (hb : b ≠ id) (hg : a.eval gg = .func (.func g) #[] lb)
    (hdone : ∀ (D : Nat) (W : World), w.heap.size ≤ D → Below w.heap.size w W → W.heap[D]? = some (.deferred (some [])) → Q0 .normal { a with defers := { target := .collected D, args := #[] } :: a.defers } W) :
    (Code.rangeFunc gg #[t] Code.skip (Code.block b (Code.exit id))).wpIn Fence.wide m Try.prog (Exit.inBlock id Q0) a w := by
  have h1 : 1 ≤ m := by omega
  have hsq := T.solo (m - 1) (by omega) (fun _ => False) (fun _ h => h.elim) (fun k hk => ⟨hown k hk, fun h => h⟩)
  refine range_o rfl h1 (gf := g) hg trivial hent hsq KpZ.trans (fun W l o o' _ _ _ => KpZ.put W l o') (fun x => rfl)
    (fun _ W => Below w.heap.size w W) (fun c _ W => c = Code.exit id ∧ Below w.heap.size w W) (ownFrom_below (Nat.le_refl _) (Nat.le_refl _)) (fun c s X Y row h hg hr => ⟨h.1, ownFrom_below (β := Unit) (Nat.le_refl _) (Nat.le_refl _) () X Y row h.2 hg hr⟩) (Below.refl _ _)
    (fun l W0 x a' W => a' = { tmps := a.tmps.setIfInBounds t (runV (L[x.val]'x.isLt)), defers := [] } ∧ KpZ (fun _ => False) l W0 W) (fun _ _ _ _ _ _ _ _ h _ _ => ⟨h.1, h.2.trans (KpZ.put _ _ _)⟩) ?assign ?body (fun D xs W hD _ hI hK => hdone D W hD hI hK) ?stop
  case assign =>
    intro l pre x W K hl hI hK
    refine wpIn_skip ?_
    have h := hK _ W (KeepsFrom.refl _ _) hI ⟨rfl, KpZ.of_below (Below.refl _ _)⟩
    simpa [Exit.then] using h
  case body =>
    rintro l pre x a' U0 W hl hI ⟨rfl, hk0⟩ _
    refine wpIn_block ?_
    refine wpIn_exit ?_
    simp only [Exit.inBlock, if_neg (Ne.symm hb)]
    exact ⟨KeepsFrom.refl _ _, hk0, rfl, hI⟩
  case stop =>
    rintro D c pre W hD _ ⟨rfl, hI⟩ hK
    refine wpIn_exit ?_
    simp only [Exit.inBlock, if_true]
    exact hdone D W hD hI hK
section
variable {IsA : Thg → Nat → (Nat → Nat) → Prop} (ok : AreasOk IsA) {w : World} {X : Thg} {d rb : Nat} {f : Nat → Nat}
include ok
set_option maxRecDepth 100000 in
set_option maxHeartbeats 8000000 in
theorem same_in (m : Nat) (hm : 8 ≤ m) (hX : IsA X d f) (hA : X.At w) (R : RefR w rb f) :
    CallsIn Fence.wide m Try.prog 22 #[.pointer (some ⟨d, 0, none⟩), .pointer (some ⟨rb, 0, none⟩)] w fun e w' => e = .returned (.bool true) ∧ Below w.heap.size w w' := by
  have h1 : 1 ≤ m := by omega
  have HX := Lib.hid hX
  have HA := Lib.hid hA
  have HR := Lib.hid R
  have HLT := Lib.hid (X.lt w hA)
  clear hX hA R
  refine callsIn_of_wp_marks Try.func22 rfl trivial ?_ rfl
  simp only [Try.ntmps22, List.size_toArray, List.length_cons, List.length_nil, Nat.reduceAdd, Nat.reduceSub, Array.replicate_succ, Array.replicate_zero, List.push_toArray, List.append_toArray, List.nil_append, List.cons_append]
  refine wpIn_wide.2 ?_
  have ha : Below w.heap.size w (w.alloc (.cells #[.bool false] 4)) := (Below.refl _ w).alloc (Nat.le_refl _) _
  have HA1 := Lib.hid (X.later HA.out ha)
  have HR1 := Lib.hid (HR.out.later ha)
  have HRC := Lib.hid (RowAt.new w #[.bool false] 4 1 (fun _ => .bool false) (fun i hi => by
    obtain rfl : i = 0 := by omega
    rfl))
  have HB1 := Lib.hid ha
  have hs1 : (w.alloc (.cells #[.bool false] 4)).heap.size = w.heap.size + 1 := by simp
  clear ha
  go_wp2_with (fail)
  generalize w.alloc (.cells #[.bool false] 4) = w1 at *
  refine (rruns_any HR1.out).mono ?_
  rintro e w2 ⟨v, rfl, hown, hb2⟩
  obtain ⟨la, lc, rfl, hrec⟩ := RecsAt.of_owns hown
  have HREC := Lib.hid hrec
  have HB2 := Lib.hid hb2
  have HA2 := Lib.hid (X.later HA1.out hb2)
  clear hrec hb2 hown
  go_wp2_with (fail)
  obtain ⟨L, hL⟩ : ∃ L, rns f = L := ⟨_, rfl⟩
  have HLL := Lib.hid hL
  rw [show runsTo f 1024 = L from hL]
  rw [show runsTo f 1024 = L from hL] at HREC
  have HDS := Lib.hid (show L.length ≤ 1024 from by rw [← hL]; exact runs_len f 1024)
  clear hL
  obtain ⟨w3, hw3⟩ : ∃ w3, (w2.alloc (.cells #[.slice la L.length lc] 49)).alloc (.cells #[.int .i64 0] 3) = w3 := ⟨_, rfl⟩
  have hb3 : Below w2.heap.size w2 w3 := by rw [← hw3]; exact ((Below.refl _ _).alloc (Nat.le_refl _) _).alloc (by simp) _
  have hs3 : w3.heap.size = w2.heap.size + 2 := by rw [← hw3]; simp
  have hcl : w3.cell? ⟨w2.heap.size, 0, none⟩ = some (.slice la L.length lc) := by rw [← hw3]; simp [go_sem]
  have hcn : w3.cell? ⟨w2.heap.size + 1, 0, none⟩ = some (.int .i64 0) := by rw [← hw3]; simp [go_sem]
  have hfn : w3.frozen? ⟨w2.heap.size + 1, 0, none⟩ = false := by rw [← hw3]; simp [go_sem]
  rw [hw3]
  have HB3 := Lib.hid hb3
  have HCL := Lib.hid hcl
  have HCN := Lib.hid hcn
  have HFN := Lib.hid hfn
  have HA3 := Lib.hid (X.later HA2.out hb3)
  clear hw3 hb3 hcl hcn hfn
  refine (ok.runs HX.out HA3.out).mono ?_
  rintro e w4 ⟨g0, lb0, own0, rfl, hb4, _, hnil0, _, _⟩
  have HB4 := Lib.hid (HB3.out.trans (hb4.mono HB3.out.size))
  have HB34 := Lib.hid hb4
  have HA4 := Lib.hid (X.later HA3.out hb4)
  have hs4 := hb4.size
  clear hb4
  go_wp2_with (fail)
  refine (ok.runs HX.out HA4.out).mono ?_
  rintro e w5 ⟨g, lb, own, rfl, hb5, hent, hnil, hown, hT⟩
  rw [HLL.out] at hT
  have HB5 := Lib.hid (HB4.out.trans (hb5.mono HB4.out.size))
  have HB35 := Lib.hid (HB34.out.trans (hb5.mono HB34.out.size))
  have HA5 := Lib.hid (X.later HA4.out hb5)
  have hs5 := hb5.size
  have HT := Lib.hid hT
  have HOWN := Lib.hid hown
  have HENT := Lib.hid hent
  clear hb5 hT hown hnil hnil0 hent
  go_wp2_with (fail)
  have hlen := HDS.out
  have HW0 := Lib.hid (show CnAt w5 (w2.heap.size + 1) ([] : List (Fin L.length)) w5 from by
    have hb : Below w3.heap.size w3 w5 := HB35.out
    exact ⟨by rw [hb.cell (World.block_lt_of_cell? _ _ HCN.out)]; exact HCN.out, by rw [hb.frozen (World.block_lt_of_cell? _ _ HCN.out)]; exact HFN.out, Only.refl _ _⟩)
  have hsq := HT.out.solo (m - 1) (by omega) (fun k => k = w2.heap.size + 1) (fun k hk => by omega) (fun k hk => by
    obtain ⟨h1, h2⟩ := HOWN.out k hk
    refine ⟨h2, fun e => ?_⟩
    rcases h1 with h1 | h1
    · have := HLT.out k h1
      have := HB1.out.size
      have := HB2.out.size
      omega
    · omega)
  refine (wpIn_wide (n := m)).1 ?_
  refine range_oB rfl h1 (gf := g) (lb := lb) (by simp [go_sem]) trivial HENT.out hsq KpZ.trans (fun W l o o' _ _ _ => KpZ.put W l o') (fun x => rfl) (CnAt w5 (w2.heap.size + 1)) (fun _ _ _ => False) (cn_own (by omega)) (fun _ _ _ _ _ h _ _ => h) HW0.out
    7 (fun l U0 x zb W' => RowAt W' zb 3 (rnV (L[x.val]'x.isLt)) ∧ w5.heap.size ≤ zb ∧ KpZ (fun k => k = w2.heap.size + 1) l U0 W') (fun l U0 x zb W o o' _ R hl ho => ⟨row_put o' R.1 hl ho, R.2.1, R.2.2.trans (KpZ.put _ _ _)⟩) ?assign ?body ?done (fun _ _ _ _ _ _ hIx _ => hIx.elim)
  case assign =>
    intro l pre x V K hl hI hK
    have HK := Lib.hid hK
    have HI := Lib.hid hI
    have HR := Lib.hid (run_row V (L[x.val]'x.isLt))
    have HST := Lib.hid (store_run V (L[x.val]'x.isLt))
    have HW := Lib.hid ((Below.refl _ V).alloc (Nat.le_refl _) (.cells #[.int .i64 (L[x.val]'x.isLt).1, .int .i64 (L[x.val]'x.isLt).2.1, .int .u8 (L[x.val]'x.isLt).2.2] TRun))
    clear hK hI hsq
    unfold runV at HST
    simp only [runV]
    gi_wp2_with (fail)
    have h9 := HK.out V.heap.size _ ((KeepsOthers.alloc V _).from _) (HI.out.later HW.out) ⟨HR.out, HI.out.only.size, KpZ.of_below HW.out⟩
    simpa [runV] using h9
  case body =>
    rintro l pre x zb U0 V hl hI ⟨hz, hzb, hk0⟩ hlen
    obtain ⟨hxl, _⟩ := next_of_some hlen
    have HK0 := Lib.hid hk0
    have hpl : pre.length < L.length := by rw [← hxl]; exact x.isLt
    obtain ⟨gb, ela, _, hgl, hr⟩ := HREC.out.get encR_len pre.length hpl
    obtain ⟨q1, hq1⟩ : ∃ q, L[pre.length]'hpl = q := ⟨_, rfl⟩
    have hq2 : L[x.val]'x.isLt = q1 := by rw [← hq1]; exact getElem_congr_idx hxl
    obtain ⟨y1, y2, y3⟩ := q1
    rw [hq1] at hr
    rw [hq2] at hz
    have hsz := hI.only.size
    have hs1' := HB1.out.size
    have hs2' := HB2.out.size
    have hsz3 := HB35.out.size
    have kV : ∀ o v, w2.cell? ⟨gb, o, none⟩ = some v → V.cell? ⟨gb, o, none⟩ = some v := fun o v h => hI.only.cell (by omega) (by
      rw [(HB3.out.trans (HB35.out.mono HB3.out.size)).cell (p := ⟨gb, o, none⟩) hgl]; exact h)
    have g0 : V.cell? ⟨gb, pre.length * 3, none⟩ = some (.int .i64 y1) := kV _ _ (hr 0 _ rfl)
    have g1 : V.cell? ⟨gb, pre.length * 3 + 1, none⟩ = some (.int .i64 y2) := kV _ _ (hr 1 _ rfl)
    have g2 : V.cell? ⟨gb, pre.length * 3 + 2, none⟩ = some (.int .u8 y3) := kV _ _ (hr 2 _ rfl)
    have cl : V.cell? ⟨w2.heap.size, 0, none⟩ = some (.slice la L.length lc) := hI.only.cell (by omega) (by rw [HB35.out.cell (p := ⟨w2.heap.size, 0, none⟩) (by show w2.heap.size < w3.heap.size; omega)]; exact HCL.out)
    have Ln := Lib.hid (show ∀ U, U = V.drew → (loadVar 3 ⟨w2.heap.size + 1, 0, none⟩).run Try.prog U = .ok (.int .i64 pre.length) U from fun U hU => run_loadVar_cell (fun _ => by kernel_rfl) (by rw [hU]; exact hI.cn))
    have Ll := Lib.hid (show ∀ U, U = V.drew → (loadVar 49 ⟨w2.heap.size, 0, none⟩).run Try.prog U = .ok (.slice la L.length lc) U from fun U hU => run_loadVar_cell (fun _ => by kernel_rfl) (by rw [hU]; exact cl))
    have Lz := Lib.hid (show ∀ U, U = V.drew → (loadVar TRun ⟨zb, 0, none⟩).run Try.prog U = .ok (.agg #[.int .i64 y1, .int .i64 y2, .int .u8 y3]) U from fun U hU => load_run (by rw [hU]; exact hz.cell 0 (by decide)) (by rw [hU]; exact hz.cell 1 (by decide)) (by rw [hU]; exact hz.cell 2 (by decide)))
    have Lf := Lib.hid (show ∀ U, U = V.drew → (loadVar TRun ⟨gb, pre.length * 3, none⟩).run Try.prog U = .ok (.agg #[.int .i64 y1, .int .i64 y2, .int .u8 y3]) U from fun U hU => load_run (by rw [hU]; exact g0) (by rw [hU]; exact g1) (by rw [hU]; exact g2))
    have hd0 : decide ((L.length : Int) ≤ (pre.length : Int)) = false := decide_eq_false (by omega)
    have hd1 : decide (L.length ≤ pre.length) = false := decide_eq_false (by omega)
    have hltI : (pre.length : Int) < (L.length : Int) := by omega
    have HI := Lib.hid hI
    subst ela
    have cn : V.drew.cell? ⟨w2.heap.size + 1, 0, none⟩ = some (.int .i64 pre.length) := HI.out.cn
    have fn : V.drew.frozen? ⟨w2.heap.size + 1, 0, none⟩ = false := HI.out.fn
    have HO := Lib.hid (show Only (fun k => k = w2.heap.size + 1) V (V.drew.setCell ⟨w2.heap.size + 1, 0, none⟩ (.int .i64 ((pre.length : Int) + 1))) from
      (Only.of_below (Below.refl V.heap.size V).drew).trans (Only.setCell (S := fun k => k = w2.heap.size + 1) _ ⟨w2.heap.size + 1, 0, none⟩ rfl _))
    have HS := Lib.hid (show CnAt w5 (w2.heap.size + 1) (pre ++ [x]) (V.drew.setCell ⟨w2.heap.size + 1, 0, none⟩ (.int .i64 ((pre.length : Int) + 1))) from
      ⟨by
        rw [World.cell?_setCell_same' _ _ _ (by rw [cn]; rfl), List.length_append]
        rfl, by rw [World.frozen?_setCell]; exact fn, HI.out.only.trans HO.out⟩)
    simp only [runV, hq2]
    clear hr g0 g1 g2 cl hsq hz hk0 hq1 hq2 hI hxl kV hlen
    gi_wp2_with (fail)
    go_simp
    refine wpIn_region_lex1 (fun U => U = V.drew) [(0, false), (1, false), (2, false), (3, false), (4, false), (5, false), (6, false), (7, false), (8, false), (9, false), (10, false), (11, false)]
      (by kernel_rfl) (by kernel_rfl) (by kernel_rfl) rfl (by kernel_rfl) rfl ?_
    intro V0 hV0 hK0
    clear hK0
    subst hV0
    refine lexH_load rfl rfl _ _ rfl rfl Ln.out ?_
    simp only [List.getElem_toArray, List.getElem_cons_zero, Act.put, List.setIfInBounds_toArray, List.set_cons_zero, List.set_cons_succ]
    refine lexH_load rfl rfl _ _ rfl rfl Ll.out ?_
    simp only [List.getElem_toArray, List.getElem_cons_succ, List.getElem_cons_zero, Act.put, List.setIfInBounds_toArray, List.set_cons_zero, List.set_cons_succ]
    refine lexH_yieldE rfl rfl ?_
    apply Exists.intro
    refine ⟨fun W hW => ?_, ?_⟩
    focus (go_simp; exact rfl)
    simp only [List.getElem_toArray, List.getElem_cons_succ, List.getElem_cons_zero, Act.put, List.setIfInBounds_toArray, List.set_cons_zero, List.set_cons_succ]
    refine lexH_yieldE rfl rfl ?_
    apply Exists.intro
    refine ⟨fun W hW => ?_, ?_⟩
    focus (go_simp; exact rfl)
    simp only [List.getElem_toArray, List.getElem_cons_succ, List.getElem_cons_zero, Act.put, List.setIfInBounds_toArray, List.set_cons_zero, List.set_cons_succ]
    refine lexH_yieldE rfl rfl ?_
    apply Exists.intro
    refine ⟨fun W hW => ?_, ?_⟩
    focus (go_simp; exact rfl)
    simp only [List.getElem_toArray, List.getElem_cons_succ, List.getElem_cons_zero, Act.put, List.setIfInBounds_toArray, List.set_cons_zero, List.set_cons_succ]
    refine lexH_load rfl rfl _ _ rfl rfl Lz.out ?_
    simp only [List.getElem_toArray, List.getElem_cons_succ, List.getElem_cons_zero, Act.put, List.setIfInBounds_toArray, List.set_cons_zero, List.set_cons_succ]
    refine lexH_load rfl rfl _ _ rfl rfl Ll.out ?_
    simp only [List.getElem_toArray, List.getElem_cons_succ, List.getElem_cons_zero, Act.put, List.setIfInBounds_toArray, List.set_cons_zero, List.set_cons_succ]
    refine lexH_load rfl rfl _ _ rfl rfl Ln.out ?_
    simp only [List.getElem_toArray, List.getElem_cons_succ, List.getElem_cons_zero, Act.put, List.setIfInBounds_toArray, List.set_cons_zero, List.set_cons_succ]
    refine lexH_yieldE rfl rfl ?_
    apply Exists.intro
    refine ⟨fun W hW => ?_, ?_⟩
    focus (go_simp; exact rfl)
    simp only [List.getElem_toArray, List.getElem_cons_succ, List.getElem_cons_zero, Act.put, List.setIfInBounds_toArray, List.set_cons_zero, List.set_cons_succ]
    refine lexH_load rfl rfl _ _ rfl rfl Lf.out ?_
    simp only [List.getElem_toArray, List.getElem_cons_succ, List.getElem_cons_zero, Act.put, List.setIfInBounds_toArray, List.set_cons_zero, List.set_cons_succ]
    refine lexH_yieldE rfl rfl ?_
    apply Exists.intro
    refine ⟨fun W hW => ?_, ?_⟩
    focus (go_simp; exact rfl)
    simp only [List.getElem_toArray, List.getElem_cons_succ, List.getElem_cons_zero, Act.put, List.setIfInBounds_toArray, List.set_cons_zero, List.set_cons_succ]
    refine lexH_yieldE rfl rfl ?_
    apply Exists.intro
    refine ⟨fun W hW => ?_, ?_⟩
    focus (go_simp; exact rfl)
    simp only [List.getElem_toArray, List.getElem_cons_succ, List.getElem_cons_zero, Act.put, List.setIfInBounds_toArray, List.set_cons_zero, List.set_cons_succ]
    refine lexI_nil ?_
    clear Ln Ll Lz Lf hd0 hd1 hltI
    gi_wp2_with (fail)
    exact ⟨⟨HO.out.size, fun k o hB hk hc => (HO.out.block k (Array.getElem?_eq_some_iff.1 hk).1 (by omega)).trans hk⟩, HK0.out.trans (KpZ.of_only (HO.out.mono (fun k h => h))), HS.out⟩
  case done =>
    rintro D xs V hD hxs hI hDk
    have hxl : xs.length = L.length := by
      have := congrArg List.length hxs
      simpa using this
    have hcn := hI.cn
    rw [hxl] at hcn
    have HCN := Lib.hid hcn
    have hs1' := HB1.out.size
    have hs2' := HB2.out.size
    have hsz3 := HB35.out.size
    have HAV := Lib.hid (X.only _ _ _ HA5.out hI.only (fun k hk h => by have := HLT.out k hk; omega))
    have HBV := Lib.hid (show Below w.heap.size w V from hI.only.below (HB1.out.trans ((HB2.out.trans (HB5.out.mono HB2.out.size)).mono hs1')) (by omega) (fun k hk => by omega))
    have HRCV := Lib.hid ((HRC.out.later (HB2.out.trans (HB5.out.mono HB2.out.size))).only hI.only (by omega))
    have HCLV := Lib.hid (show V.cell? ⟨w2.heap.size, 0, none⟩ = some (.slice la L.length lc) from hI.only.cell (by omega) (by rw [HB35.out.cell (p := ⟨w2.heap.size, 0, none⟩) (by show w2.heap.size < w3.heap.size; omega)]; exact HCL.out))
    have hsV := hI.only.size
    have hDV : D < V.heap.size := (Array.getElem?_eq_some_iff.1 hDk).1
    have HDK := Lib.hid hDk
    clear hsq hI hcn hxs hxl hDk
    go_wp2_with (fail)
    refine (ok.runs HX.out HAV.out).mono ?_
    rintro e V2 ⟨g2, lb2, own2, rfl, hb2, _, hnil2, _, _⟩
    have HB6 := Lib.hid hb2
    have HA6 := Lib.hid (X.later HAV.out hb2)
    clear hb2
    go_wp2_with (fail)
    refine (ok.runs HX.out HA6.out).mono ?_
    rintro e V3 ⟨g3, lb3, own3, rfl, hb3, hent3, _, hown3, hT3⟩
    have HB7 := Lib.hid (HB6.out.trans (hb3.mono HB6.out.size))
    have HA7 := Lib.hid (X.later HA6.out hb3)
    clear hb3 hnil2
    go_wp2_with (fail)
    refine (wpIn_wide (n := m)).1 ?_
    refine range_brk m hm hT3 hent3 (fun k hk => (hown3 k hk).2) 2 3 (by decide) (by simp [go_sem]) (fun D2 W2 hD2 hbr hk2 => ?_)
    have HB8 := Lib.hid (show Below V.heap.size V W2 from HB7.out.trans (hbr.mono HB7.out.size))
    have HA8 := Lib.hid (X.later HA7.out hbr)
    have HK2 := Lib.hid hk2
    have HD1 := Lib.hid ((HB8.out.block D hDV).trans HDK.out)
    have hD2V : V.heap.size ≤ D2 := Nat.le_trans HB7.out.size hD2
    have HBW := Lib.hid (show Below w.heap.size w W2 from HBV.out.trans (HB8.out.mono HBV.out.size))
    have HRCW := Lib.hid (HRCV.out.later HB8.out)
    have cn : W2.cell? ⟨w2.heap.size + 1, 0, none⟩ = some (.int .i64 L.length) := by rw [HB8.out.cell (World.block_lt_of_cell? _ _ HCN.out)]; exact HCN.out
    have cl : W2.cell? ⟨w2.heap.size, 0, none⟩ = some (.slice la L.length lc) := by rw [HB8.out.cell (World.block_lt_of_cell? _ _ HCLV.out)]; exact HCLV.out
    have Ln := Lib.hid (show ∀ U, OkS w.heap.size W2 U → (loadVar 3 ⟨w2.heap.size + 1, 0, none⟩).run Try.prog U = .ok (.int .i64 L.length) U from fun U hU => run_loadVar_cell (fun _ => by kernel_rfl) (hU.1.cell (by omega) cn))
    have Ll := Lib.hid (show ∀ U, OkS w.heap.size W2 U → (loadVar 49 ⟨w2.heap.size, 0, none⟩).run Try.prog U = .ok (.slice la L.length lc) U from fun U hU => run_loadVar_cell (fun _ => by kernel_rfl) (hU.1.cell (by omega) cl))
    have HLX := Lib.hid (show ∀ U, OkS w.heap.size W2 U → X.At U from fun U hU => X.only _ _ _ HA8.out hU.1 (fun k hk h => by have := HLT.out k hk; omega))
    clear hT3 hent3 hown3 hbr hk2 cn cl
    go_wp2_with (fail)
    refine wp_region_lex (OkS w.heap.size W2) [(0, false), (1, false), (2, false), (3, false), (4, false), (5, false), (7, false), (6, true), (8, false), (9, false), (10, true)]
      (by kernel_rfl) (by kernel_rfl) rfl (by kernel_rfl) ⟨⟨rfl, rfl, rfl, Nat.le_refl _, fun _ _ _ => rfl⟩, _, HRCW.out.later (Below.refl _ _).drew⟩ ?_
    intro W0 hK0
    refine lexH_load rfl rfl _ _ rfl rfl Ln.out ?_
    simp only [List.getElem_toArray, List.getElem_cons_zero, Act.put, List.setIfInBounds_toArray, List.set_cons_zero, List.set_cons_succ]
    refine lexH_load rfl rfl _ _ rfl rfl Ll.out ?_
    simp only [List.getElem_toArray, List.getElem_cons_succ, List.getElem_cons_zero, Act.put, List.setIfInBounds_toArray, List.set_cons_zero, List.set_cons_succ]
    refine lexH_yieldE rfl rfl ?_
    apply Exists.intro
    refine ⟨fun W hW => ?_, ?_⟩
    focus (go_simp; exact rfl)
    simp only [List.getElem_toArray, List.getElem_cons_succ, List.getElem_cons_zero, Act.put, List.setIfInBounds_toArray, List.set_cons_zero, List.set_cons_succ]
    refine lexH_yieldE rfl rfl ?_
    apply Exists.intro
    refine ⟨fun W hW => ?_, ?_⟩
    focus (go_simp; exact rfl)
    simp only [List.getElem_toArray, List.getElem_cons_succ, List.getElem_cons_zero, Act.put, List.setIfInBounds_toArray, List.set_cons_zero, List.set_cons_succ]
    refine lexH_yieldE rfl rfl ?_
    apply Exists.intro
    refine ⟨fun W hW => ?_, ?_⟩
    focus (go_simp; exact rfl)
    simp only [List.getElem_toArray, List.getElem_cons_succ, List.getElem_cons_zero, Act.put, List.setIfInBounds_toArray, List.set_cons_zero, List.set_cons_succ]
    refine lexH_yieldE rfl rfl ?_
    apply Exists.intro
    refine ⟨fun W hW => ?_, ?_⟩
    focus (go_simp; exact rfl)
    simp only [List.getElem_toArray, List.getElem_cons_succ, List.getElem_cons_zero, Act.put, List.setIfInBounds_toArray, List.set_cons_zero, List.set_cons_succ]
    refine lexH_load rfl rfl _ _ rfl rfl Ln.out ?_
    simp only [List.getElem_toArray, List.getElem_cons_succ, List.getElem_cons_zero, Act.put, List.setIfInBounds_toArray, List.set_cons_zero, List.set_cons_succ]
    refine lexH_call 24 #[.pointer (some ⟨d, 0, none⟩)] rfl rfl ?_ ?_
    focus (go_simp; done)
    refine (ok.len HX.out (HLX.out _ hK0)).mono ?_
    rintro e W4 ⟨rfl, hb4⟩
    rw [show rns f = L from HLL.out]
    have hK4 : OkS w.heap.size W2 W4 := ⟨hK0.1.trans (Only.of_below hb4), hK0.2.imp fun _ h => h.later hb4⟩
    refine ⟨_, rfl, hK4, ?_⟩
    simp only [List.getElem_toArray, List.getElem_cons_succ, List.getElem_cons_zero, Act.put, List.setIfInBounds_toArray, List.set_cons_zero, List.set_cons_succ]
    refine lexH_yieldE rfl rfl ?_
    apply Exists.intro
    refine ⟨fun W hW => ?_, ?_⟩
    focus (go_simp; exact rfl)
    simp only [List.getElem_toArray, List.getElem_cons_succ, List.getElem_cons_zero, Act.put, List.setIfInBounds_toArray, List.set_cons_zero, List.set_cons_succ]
    refine lexH_yieldE rfl rfl ?_
    apply Exists.intro
    refine ⟨fun W hW => ?_, ?_⟩
    focus (go_simp; exact rfl)
    simp only [List.getElem_toArray, List.getElem_cons_succ, List.getElem_cons_zero, Act.put, List.setIfInBounds_toArray, List.set_cons_zero, List.set_cons_succ]
    have HK4 := Lib.hid hK4
    obtain ⟨fr, hrow⟩ := hK4.2
    have c4 := hrow.cell 0 (by decide)
    have z4 := hrow.frozen 0
    have hK5 : OkS w.heap.size W2 (W4.setCell ⟨w.heap.size, 0, none⟩ (.bool true)) := ⟨hK4.1.trans (Only.setCell (S := fun k => k = w.heap.size) _ ⟨w.heap.size, 0, none⟩ rfl _), _, hrow.setCell 0 _⟩
    have HK5 := Lib.hid hK5
    have HR5 := Lib.hid (hrow.setCell 0 (.bool true))
    clear hK5 hK4 hK0 hrow
    refine lexH_eff rfl rfl ?_
    unfold Oper.wp
    go_simp
    refine ⟨HK5.out, ?_⟩
    refine lexH_nil ?_
    clear c4 z4 Ln Ll HLX
    generalize W4.setCell ⟨w.heap.size, 0, none⟩ (.bool true) = W5 at *
    go_wp2_with (fail)
    have hDn : D ≠ w.heap.size := by omega
    have hD2n : D2 ≠ w.heap.size := by omega
    have hDD : D2 ≠ D := by omega
    refine leaves_many [D2, D] _ ?_ (fun E hE => ?_) (fun W' ho2 hs2 => ⟨.bool true, ?_, rfl, ?_⟩)
    · simp only [List.nodup_cons, List.mem_singleton, List.not_mem_nil, not_false_eq_true, List.nodup_nil, and_true]
      exact hDD
    · have hE7 : W2.heap[E]? = some (.deferred (some [])) ∧ E ≠ w.heap.size := by
        rcases List.mem_cons.1 hE with rfl | hE
        · exact ⟨HK2.out, hD2n⟩
        · rw [List.mem_singleton] at hE
          subst hE
          exact ⟨HD1.out, hDn⟩
      exact (HK5.out.1.block E (Array.getElem?_eq_some_iff.1 hE7.1).1 hE7.2).trans hE7.1
    · have hc := ho2.cell (b := w.heap.size) (o := 0) (v := .bool true) (fun h => by
        rcases List.mem_cons.1 h with h | h
        · exact hD2n h.symm
        · rw [List.mem_singleton] at h
          exact hDn h.symm) (HR5.out.cell 0 (by decide))
      simp [results, Try.f22, go_sem, hc]
    · have hb5 : Below w.heap.size w W5 := HK5.out.1.below HBW.out HBW.out.size (fun k hk => by omega)
      exact ho2.below hb5 hb5.size (fun E hE => by
        rcases List.mem_cons.1 hE with h | h
        · omega
        · rw [List.mem_singleton] at h
          omega)
end
end Go.Proofs.Ythnkbipdlepbaaa
