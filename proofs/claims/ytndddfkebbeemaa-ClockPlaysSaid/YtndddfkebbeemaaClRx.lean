/-
  clock, the document's: Next.
-/
import Derived.Test.YtndddfkebbeemaaClRm
import Derived.Test.YtndddfkebbeemaaLexP
import Derived.Deep.LoopGhost
namespace Go.Proofs.Ytndddfkebbeemaa
open Go.RowKit Go.Shelf Go
attribute [local go_sem] Oper.semAt_some

theorem sizeFrI : (Try.prog.info? 56).map (·.size) = some 3 := by kernel_rfl
theorem elem_src (w : World) (n : Nat) (a t : Bool) (e : TypeId) : ∀ q u, (encF (n, a, t))[q]? = some u → (w.alloc (.cells #[.int .i64 (n : Int), .bool a, .bool t] e)).cell? ((⟨w.heap.size, 0, none⟩ : Addr).add q) = some u := fun q u hq => by
  rw [Addr.add_lit, Nat.zero_add, cell_of_row _ _ _ _ _ _ (heap_alloc_new w _)]
  match q, hq with
  | 0, hq => simpa [encF] using hq
  | 1, hq => simpa [encF] using hq
  | 2, hq => simpa [encF] using hq
theorem load_fr {W : World} {g o n : Nat} {a t : Bool} (h0 : W.cell? ⟨g, o, none⟩ = some (.int .i64 (n : Int))) (h1 : W.cell? ⟨g, o + 1, none⟩ = some (.bool a)) (h2 : W.cell? ⟨g, o + 2, none⟩ = some (.bool t)) :
    (loadVar 56 ⟨g, o, none⟩).run Try.prog W = .ok (.agg #[.int .i64 (n : Int), .bool a, .bool t]) W :=
  run_loadVar_mid (P := Try.prog) W g o 56 [.int .i64 (n : Int), .bool a, .bool t] _ (fun j v hj => by
    match j, hj with
    | 0, hj => simp at hj; subst hj; exact h0
    | 1, hj => simp at hj; subst hj; exact h1
    | 2, hj => simp at hj; subst hj; exact h2) Try.underlying56 rfl sizeFrI
theorem lexP_slice {P : Program} {ops : Array Oper} {Q : Exit → Act → World → Prop} {S : World → Prop} {K : Act → World → Prop} {i : Nat} {p : Plan} {a : Act} {w : World} {o : Oper} {v : Value} (hi : ops[i]? = some o) (hw : Region.wanted o (yielded ops a.tmps) = true) (t : TypeId) (x : Operand) (lo hh mx : Option Operand) (ho : o.op = .slice t x lo hh mx)
    (hv : ∀ W, S W → (Instr.sliceAt t (a.eval x) (lo.map a.eval) (hh.map a.eval) (mx.map a.eval)).run P W = .ok v W) (h : LexP P ops Q S K p (a.put o.dst v) w) : LexP P ops Q S K (.take i p) a w :=
  lexP_yield hi hw (fun W hW => by unfold execOp; simp only [ho, Sem.run_bind, Sem.run_pure, Result.andThen_ok, hv W hW]) h
theorem only_add {S : Nat → Prop} {w w' : World} {c q : Nat} {u : Value} (ho : Only S w w') (hn : ¬ S c) (h : w.cell? ((⟨c, 0, none⟩ : Addr).add q) = some u) : w'.cell? ((⟨c, 0, none⟩ : Addr).add q) = some u := by
  rw [Addr.add_lit] at h ⊢
  exact ho.cell hn h
/-- So far. -/
structure NxAt (w : World) (r : Nat) (v : Value) (L : List Fr) (k : Nat) (W : World) : Prop where
  at' : ∃ v2 M, mass M = k ∧ TTurn w (thRf r v L) W (thRf r v2 M) ∧ nextL M = nextL L ∧ M.length = L.length
section
variable {w w' w1 : World} {r : Nat} {v v' : Value} {L L' : List Fr}
set_option maxRecDepth 100000 in
set_option maxHeartbeats 16000000 in
theorem rnext_any (h : RfV w r v L) (hl : L.length ≤ 1000) : Calls Try.prog 18 #[.pointer (some ⟨r, 0, none⟩)] w (RfT w r v L (.tuple #[.int .i64 ((nextL L).1.1 : Nat), .bool (nextL L).1.2]) (nextL L).2) := by
  obtain ⟨i0, hi, hz0, hz1, hz2⟩ := info_parts infoFr
  have H0 := Lib.hid (show NxAt w r v L (mass L) w from ⟨v, L, rfl, ⟨h, Only.refl _ _, fun _ hk => .inl hk⟩, rfl, rfl⟩)
  clear h
  have HL := Lib.hid hl
  go_enter Try.func18, Try.ntmps18
  go_wp2_with (fail)
  go_loopg [] (mass L) (fun k wr => Hid (NxAt w r v L k wr))
  case atStart => exact H0
  case round =>
    obtain ⟨v2, M, hk, hT, hn, hM⟩ := hrel.out.at'
    have HM := Lib.hid hM
    cases M with
    | nil =>
      have c0 := hT.at'.c0
      obtain ⟨a0, cc0, hv0, _⟩ := owns_slice hT.at'.ow
      subst hv0
      have HT := Lib.hid hT
      have hn := Lib.hid hn
      have c0 : wr.cell? ⟨r, 0, none⟩ = some (.slice a0 0 cc0) := c0
      clear hT hrel H0 hk hM
      go_wp2_with (fail)
      go_ret2
      unfold RfT
      rw [← hn.out, nextL_nil]
      exact ⟨rfl, _, HT.out⟩
    | cons x T =>
      obtain ⟨n, a, t⟩ := x
      have HTT := Lib.hid hT
      have HRV := Lib.hid hT.at'
      have HN := Lib.hid hn
      have HKK := Lib.hid hk
      have HTL := Lib.hid (show T.length + 1 ≤ 1000 from by have h1 : T.length + 1 = L.length := hM; omega)
      obtain ⟨g, cap, hv2, _, _, hglt, hcell, _⟩ := owns_where hT.at'.ow (by simp)
      have HV2 := Lib.hid hv2
      have HCE := Lib.hid (show ∀ j u, (recV encF ((n, a, t) :: T))[j]? = some u → wr.cell? ⟨g, j, none⟩ = some u from fun j u hj => by
        have hlt := (List.getElem?_eq_some_iff.1 hj).1
        rw [recV_len encF_len] at hlt
        exact hcell j u hlt hj)
      have c0 : wr.cell? ⟨r, 0, none⟩ = some (.slice (some ⟨g, 0, none⟩) (T.length + 1) cap) := by rw [hT.at'.c0, hv2]; rfl
      have k0 : wr.cell? ⟨g, 0, none⟩ = some (.int .i64 (n : Int)) := HCE.out 0 _ rfl
      have k1 : wr.cell? ⟨g, 1, none⟩ = some (.bool a) := HCE.out 1 _ rfl
      have k2 : wr.cell? ⟨g, 2, none⟩ = some (.bool t) := HCE.out 2 _ rfl
      have hp : (0 : Int) < ((T.length + 1 : Nat) : Int) := by omega
      have hcap : T.length + 1 ≤ cap := by
        obtain ⟨_, ⟨e, h0⟩ | ⟨g', c', cur, e, hb, hg, h1, h2, h3, ht⟩⟩ := hT.at'.ow
        · simp at h0
        · rw [e] at hv2
          simp only [Value.slice.injEq] at hv2
          have h7 : T.length + 1 ≤ c' := h1
          omega
      have HNW := Lib.hid (show Below wr.heap.size wr (wr.alloc (.cells #[.int .i64 (n : Int), .bool a, .bool t] 56)) from (Below.refl _ _).alloc (Nat.le_refl _) _)
      have HBX := Lib.hid (RowAt.new wr #[.int .i64 (n : Int), .bool a, .bool t] 56 3 (fun i => if i = 0 then .int .i64 (n : Int) else if i = 1 then .bool a else .bool t) (fun i hi => by
        rcases (show i = 0 ∨ i = 1 ∨ i = 2 by omega) with rfl | rfl | rfl <;> rfl))
      have HRX := Lib.hid (hT.at'.lt (.inl rfl))
      have HGX := Lib.hid hglt
      clear hT hrel H0 hk hn hM hv2 hcell hglt

      cases t with
      | true =>
        have HQ := Lib.hid (show (((n, a, true) : Fr).2.1 || ((n, a, true) : Fr).2.2) = true from by simp)
        have b0 := HBX.out.cell 0 (by decide)
        have b1 := HBX.out.cell 1 (by decide)
        have b2 := HBX.out.cell 2 (by decide)
        have z1 := HBX.out.frozen 1
        have z2 := HBX.out.frozen 2
        simp only [if_true, if_false, Nat.reduceEqDiff] at b0 b1 b2
        obtain ⟨wB, hwB⟩ : ∃ wB, wB = (wr.alloc (.cells #[.int .i64 (n : Int), .bool true, .bool false] 56)) := ⟨_, rfl⟩
        have HBB := Lib.hid (show Below wr.heap.size wr wB from by
          rw [hwB]
          exact (Below.refl _ _).alloc (Nat.le_refl _) _)
        have HBR := Lib.hid (show RowAt wB wr.heap.size 3 (fun i => if i = 0 then .int .i64 (n : Int) else if i = 1 then .bool true else .bool false) from by
          rw [hwB]
          exact RowAt.new wr #[.int .i64 (n : Int), .bool true, .bool false] 56 3 _ (fun i hi => by
            rcases (show i = 0 ∨ i = 1 ∨ i = 2 by omega) with rfl | rfl | rfl <;> rfl))
        have HRB := Lib.hid (HRV.out.later HBB.out)
        have L1 := Lib.hid (show ∀ W', Kept wB.heap.size wB W' → (loadVar 27 ⟨r, 0, none⟩).run Try.prog W' = .ok (.slice (some ⟨g, 0, none⟩) (T.length + 1) cap) W' from
          fun W' hW => run_loadVar_cell (fun _ => by kernel_rfl) (by rw [(HRB.out.later hW.below).c0, HV2.out]; rfl))
        have L2 := Lib.hid (show ∀ W', Kept wB.heap.size wB W' → (loadVar 56 ⟨wr.heap.size, 0, none⟩).run Try.prog W' = .ok (.agg #[.int .i64 (n : Int), .bool true, .bool false]) W' from
          fun W' hW => load_fr ((HBR.out.later hW.below).cell 0 (by decide)) ((HBR.out.later hW.below).cell 1 (by decide)) ((HBR.out.later hW.below).cell 2 (by decide)))
        obtain ⟨A1, hA1, hS1⟩ : ∃ A1 : Addr, (0 < T.length → A1 = ⟨g, 3, none⟩) ∧ ∀ W, Kept wB.heap.size wB W → (Instr.sliceAt 27 (.slice (some ⟨g, 0, none⟩) (T.length + 1) cap) (some (.int .i64 1)) none none).run Try.prog W = .ok (.slice (some A1) T.length (cap - 1)) W :=
          ⟨_, fun hp => by rw [if_neg (by omega)], fun W _ => run_sub_from (P := Try.prog) Try.underlying27 sizeFr g 0 (T.length + 1) cap 1 (by omega) W⟩
        have S1 := Lib.hid hS1
        have HSRC := Lib.hid (show ∀ W, Kept wB.heap.size wB W → 0 < T.length → ∃ ad, some A1 = some ad ∧ ∀ j u, (recV encF T)[j]? = some u → W.cell? (ad.add j) = some u from fun W hW hp => ⟨_, rfl, fun j u hj => by
          rw [hA1 hp, Addr.add_lit]
          have hc := HCE.out (3 + j) u (by rw [recV, List.getElem?_append_right (by rw [encF_len]; omega), encF_len, Nat.add_sub_cancel_left]; exact hj)
          rw [hW.below.cell (p := ⟨g, 3 + j, none⟩) (Nat.lt_of_lt_of_le HGX.out HBB.out.size), HBB.out.cell (p := ⟨g, 3 + j, none⟩) HGX.out]
          exact hc⟩)
        have HLN := Lib.hid (show T.length + 1 ≤ 1000 from HTL.out)
        have HTB := Lib.hid (show TTurn w (thRf r v L) wB (thRf r v2 ((n, a, true) :: T)) from ttl HTT.out HBB.out)
        clear hS1 hA1 HBB
        go_wp2_with (fail)
        rw [← hwB]
        clear hwB b0 b1 b2 z1 z2 k0 k1 k2 c0 hp
        refine wp_region_plan (Kept wB.heap.size wB) (.take 0 (.take 2 (.take 3 (.take 4 (.take 5 (.take 6 (.take 8 (.step 1 (.step 7 (.step 9 (.step 10 (.take 11 (.take 12 .fin)) .fin) .fin) (.step 9 (.step 7 (.step 10 (.take 11 (.take 12 .fin)) .fin) .fin) .fin)) (.step 9 (.step 1 (.step 7 (.step 10 (.take 11 (.take 12 .fin)) .fin) .fin) .fin) .fin))))))))) 13
          (by kernel_rfl) (by kernel_rfl) (by kernel_rfl) (Below.refl _ wB).drew ?_
        intro W0 hW0 hK0
        clear hW0
        refine lexP_yieldE rfl rfl ?_
        apply Exists.intro
        refine ⟨fun W hW => ?_, ?_⟩
        focus (go_simp; exact rfl)
        simp only [List.getElem_toArray, List.getElem_cons_zero, Act.put, List.setIfInBounds_toArray, List.set_cons_zero, List.set_cons_succ]
        refine lexP_yieldE rfl rfl ?_
        apply Exists.intro
        refine ⟨fun W hW => ?_, ?_⟩
        focus (go_simp; exact rfl)
        simp only [List.getElem_toArray, List.getElem_cons_succ, List.getElem_cons_zero, Act.put, List.setIfInBounds_toArray, List.set_cons_zero, List.set_cons_succ]
        refine lexP_yieldE rfl rfl ?_
        apply Exists.intro
        refine ⟨fun W hW => ?_, ?_⟩
        focus (go_simp; exact rfl)
        simp only [List.getElem_toArray, List.getElem_cons_succ, List.getElem_cons_zero, Act.put, List.setIfInBounds_toArray, List.set_cons_zero, List.set_cons_succ]
        refine lexP_yieldE rfl rfl ?_
        apply Exists.intro
        refine ⟨fun W hW => ?_, ?_⟩
        focus (go_simp; exact rfl)
        simp only [List.getElem_toArray, List.getElem_cons_succ, List.getElem_cons_zero, Act.put, List.setIfInBounds_toArray, List.set_cons_zero, List.set_cons_succ]
        refine lexP_load rfl rfl _ _ rfl rfl L1.out ?_
        simp only [List.getElem_toArray, List.getElem_cons_succ, List.getElem_cons_zero, Act.put, List.setIfInBounds_toArray, List.set_cons_zero, List.set_cons_succ]
        refine lexP_slice rfl rfl _ _ _ _ _ rfl S1.out ?_
        simp only [List.getElem_toArray, List.getElem_cons_succ, List.getElem_cons_zero, Act.put, List.setIfInBounds_toArray, List.set_cons_zero, List.set_cons_succ]
        refine lexP_load rfl rfl _ _ rfl rfl L2.out ?_
        simp only [List.getElem_toArray, List.getElem_cons_succ, List.getElem_cons_zero, Act.put, List.setIfInBounds_toArray, List.set_cons_zero, List.set_cons_succ]
        have W0K := Lib.hid hK0
        clear hK0
        refine lexP_or rfl rfl ?_ ?_
        · skip
          unfold Oper.wp
          go_simp
          have HK1 := Lib.hid (show Kept wB.heap.size wB (W0.alloc (.cells #[] 56)) from W0K.out.below.alloc W0K.out.below.size _)
          have HO1 := Lib.hid (World.ownsRow_made W0 (e := 56) (base := wB.heap.size) (size := 3) #[] 0 W0K.out.below.size (Nat.zero_le _) (by simp))
          refine ⟨HK1.out, ?_⟩
          clear W0K
          generalize W0.alloc (.cells #[] 56) = W1 at *
          generalize W0.heap.size = b1 at *
          refine lexP_or rfl rfl ?_ ?_
          · skip
            refine wp_append_src _ _ _ 27 rfl wB.heap.size 56 i0 _ 3 16 Try.underlying27 hi hz0 hz1 hz2 rfl (by decide) _ _ _ HO1.out HK1.out.below.size (some A1) T.length (cap - 1) (recV encF T) rfl rfl (recV_len encF_len T) (HSRC.out _ HK1.out) (recV_one encF_one T) (by have := HLN.out; omega) (by decide) ?_
            intro v2 W2 hown2 ho2 _
            have HO2 := Lib.hid (show W2.ownsRow wB.heap.size 56 3 v2 T.length (recV encF T) from by rw [Nat.zero_add, List.nil_append] at hown2; exact hown2)
            have HK2 := Lib.hid (show Kept wB.heap.size wB W2 from ho2.below HK1.out.below HK1.out.below.size (fun q hq => (HO1.out.lt q hq).1))
            refine ⟨HK2.out, ?_⟩
            clear hown2 ho2 HK1 HO1
            simp only [List.getElem_toArray, List.getElem_cons_succ, List.getElem_cons_zero, Act.put, List.setIfInBounds_toArray, List.set_cons_zero, List.set_cons_succ]
            refine lexP_step rfl rfl ?_
            unfold Oper.wp
            go_simp
            have HK3 := Lib.hid (show Kept wB.heap.size wB (W2.alloc (.cells #[.int .i64 (n : Int), .bool true, .bool false] 56)) from HK2.out.below.alloc HK2.out.below.size _)
            have HX3 := Lib.hid (elem_src W2 n true false 56)
            have HXL3 := Lib.hid (show W2.heap.size < (W2.alloc (.cells #[.int .i64 (n : Int), .bool true, .bool false] 56)).heap.size from by simp)
            have HXB3 := Lib.hid (show wB.heap.size ≤ W2.heap.size from HK2.out.below.size)
            have HO3 := Lib.hid (HO2.out.alloc (.cells #[.int .i64 (n : Int), .bool true, .bool false] 56))
            have HE3 := Lib.hid (fun q hq => (HO2.out.lt q hq).2)
            refine ⟨HK3.out, ?_⟩
            clear HK2 HO2
            generalize W2.alloc (.cells #[.int .i64 (n : Int), .bool true, .bool false] 56) = W3 at *
            generalize W2.heap.size = c3 at *
            refine lexP_step rfl rfl ?_
            refine wp_append_src _ _ _ 27 rfl wB.heap.size 56 i0 _ 3 16 Try.underlying27 hi hz0 hz1 hz2 rfl (by decide) _ _ _ HO3.out HK3.out.below.size (some ⟨c3, 0, none⟩) 1 1 (encF (n, true, false)) rfl rfl rfl (fun _ => ⟨_, rfl, HX3.out⟩) (encF_one _) (by have := HLN.out; omega) (by decide) ?_
            intro v4 W4 hown4 ho4 _
            have HK4 := Lib.hid (show Kept wB.heap.size wB W4 from ho4.below HK3.out.below HK3.out.below.size (fun q hq => (HO3.out.lt q hq).1))
            have hown9 : W4.ownsRow wB.heap.size 56 3 v4 (T ++ [(n, true, false)]).length (recV encF (T ++ [(n, true, false)])) := by
              rw [List.length_append, recV_append, recV_single]
              exact hown4
            have HT := Lib.hid (HRB.out.set HK4.out.below hown9)
            have c9 := (HRB.out.later HK4.out.below).c0
            have f9 := (HRB.out.later HK4.out.below).fz
            obtain ⟨a9, cap9, hv9⟩ := owns_lenC hown9
            generalize (T ++ [(n, true, false)]).length = q9 at hv9
            subst hv9
            refine ⟨HK4.out, ?_⟩
            clear hown4 hown9 ho4 HK3 HO3
            simp only [List.getElem_toArray, List.getElem_cons_succ, List.getElem_cons_zero, Act.put, List.setIfInBounds_toArray, List.set_cons_zero, List.set_cons_succ]
            refine lexP_yieldE rfl rfl ?_
            apply Exists.intro
            refine ⟨fun W hW => ?_, ?_⟩
            focus (go_simp; exact rfl)
            simp only [List.getElem_toArray, List.getElem_cons_succ, List.getElem_cons_zero, Act.put, List.setIfInBounds_toArray, List.set_cons_zero, List.set_cons_succ]
            refine lexP_yieldE rfl rfl ?_
            apply Exists.intro
            refine ⟨fun W hW => ?_, ?_⟩
            focus (go_simp; exact rfl)
            simp only [List.getElem_toArray, List.getElem_cons_succ, List.getElem_cons_zero, Act.put, List.setIfInBounds_toArray, List.set_cons_zero, List.set_cons_succ]
            refine lexP_last rfl rfl ?_
            unfold Oper.wp
            go_simp
            go_wp2_with (fail)
            go_roundg (mass (T ++ [stepF (n, a, true)]))
            case measure => 
              have h1 := mass_look (x := (n, a, true)) (L := T)
              have h2 := wF_step (x := (n, a, true)) HQ.out
              have h3 := HKK.out
              omega
            case rel => exact ⟨_, _, rfl, TTurn.transC HTB.out HT.out, (nextL_pass HQ.out).symm.trans HN.out, by have h1 : T.length + 1 = L.length := HM.out; simp [stepF]; omega⟩
          · refine lexP_step rfl rfl ?_
            unfold Oper.wp
            go_simp
            have HK2 := Lib.hid (show Kept wB.heap.size wB (W1.alloc (.cells #[.int .i64 (n : Int), .bool true, .bool false] 56)) from HK1.out.below.alloc HK1.out.below.size _)
            have HX2 := Lib.hid (elem_src W1 n true false 56)
            have HXL2 := Lib.hid (show W1.heap.size < (W1.alloc (.cells #[.int .i64 (n : Int), .bool true, .bool false] 56)).heap.size from by simp)
            have HXB2 := Lib.hid (show wB.heap.size ≤ W1.heap.size from HK1.out.below.size)
            have HO2 := Lib.hid (HO1.out.alloc (.cells #[.int .i64 (n : Int), .bool true, .bool false] 56))
            have HE2 := Lib.hid (fun q hq => (HO1.out.lt q hq).2)
            refine ⟨HK2.out, ?_⟩
            clear HK1 HO1
            generalize W1.alloc (.cells #[.int .i64 (n : Int), .bool true, .bool false] 56) = W2 at *
            generalize W1.heap.size = c2 at *
            refine lexP_step rfl rfl ?_
            refine wp_append_src _ _ _ 27 rfl wB.heap.size 56 i0 _ 3 16 Try.underlying27 hi hz0 hz1 hz2 rfl (by decide) _ _ _ HO2.out HK2.out.below.size (some A1) T.length (cap - 1) (recV encF T) rfl rfl (recV_len encF_len T) (HSRC.out _ HK2.out) (recV_one encF_one T) (by have := HLN.out; omega) (by decide) ?_
            intro v3 W3 hown3 ho3 _
            have HO3 := Lib.hid (show W3.ownsRow wB.heap.size 56 3 v3 T.length (recV encF T) from by rw [Nat.zero_add, List.nil_append] at hown3; exact hown3)
            have HK3 := Lib.hid (show Kept wB.heap.size wB W3 from ho3.below HK2.out.below HK2.out.below.size (fun q hq => (HO2.out.lt q hq).1))
            have HX3 := Lib.hid (fun q uu hq => only_add ho3 (fun e => absurd (HE2.out _ e) (Nat.lt_irrefl _)) (HX2.out q uu hq))
            refine ⟨HK3.out, ?_⟩
            clear hown3 ho3 HK2 HO2 HX2
            simp only [List.getElem_toArray, List.getElem_cons_succ, List.getElem_cons_zero, Act.put, List.setIfInBounds_toArray, List.set_cons_zero, List.set_cons_succ]
            refine lexP_step rfl rfl ?_
            refine wp_append_src _ _ _ 27 rfl wB.heap.size 56 i0 _ 3 16 Try.underlying27 hi hz0 hz1 hz2 rfl (by decide) _ _ _ HO3.out HK3.out.below.size (some ⟨c2, 0, none⟩) 1 1 (encF (n, true, false)) rfl rfl rfl (fun _ => ⟨_, rfl, HX3.out⟩) (encF_one _) (by have := HLN.out; omega) (by decide) ?_
            intro v4 W4 hown4 ho4 _
            have HK4 := Lib.hid (show Kept wB.heap.size wB W4 from ho4.below HK3.out.below HK3.out.below.size (fun q hq => (HO3.out.lt q hq).1))
            have hown9 : W4.ownsRow wB.heap.size 56 3 v4 (T ++ [(n, true, false)]).length (recV encF (T ++ [(n, true, false)])) := by
              rw [List.length_append, recV_append, recV_single]
              exact hown4
            have HT := Lib.hid (HRB.out.set HK4.out.below hown9)
            have c9 := (HRB.out.later HK4.out.below).c0
            have f9 := (HRB.out.later HK4.out.below).fz
            obtain ⟨a9, cap9, hv9⟩ := owns_lenC hown9
            generalize (T ++ [(n, true, false)]).length = q9 at hv9
            subst hv9
            refine ⟨HK4.out, ?_⟩
            clear hown4 hown9 ho4 HK3 HO3
            simp only [List.getElem_toArray, List.getElem_cons_succ, List.getElem_cons_zero, Act.put, List.setIfInBounds_toArray, List.set_cons_zero, List.set_cons_succ]
            refine lexP_yieldE rfl rfl ?_
            apply Exists.intro
            refine ⟨fun W hW => ?_, ?_⟩
            focus (go_simp; exact rfl)
            simp only [List.getElem_toArray, List.getElem_cons_succ, List.getElem_cons_zero, Act.put, List.setIfInBounds_toArray, List.set_cons_zero, List.set_cons_succ]
            refine lexP_yieldE rfl rfl ?_
            apply Exists.intro
            refine ⟨fun W hW => ?_, ?_⟩
            focus (go_simp; exact rfl)
            simp only [List.getElem_toArray, List.getElem_cons_succ, List.getElem_cons_zero, Act.put, List.setIfInBounds_toArray, List.set_cons_zero, List.set_cons_succ]
            refine lexP_last rfl rfl ?_
            unfold Oper.wp
            go_simp
            go_wp2_with (fail)
            go_roundg (mass (T ++ [stepF (n, a, true)]))
            case measure => 
              have h1 := mass_look (x := (n, a, true)) (L := T)
              have h2 := wF_step (x := (n, a, true)) HQ.out
              have h3 := HKK.out
              omega
            case rel => exact ⟨_, _, rfl, TTurn.transC HTB.out HT.out, (nextL_pass HQ.out).symm.trans HN.out, by have h1 : T.length + 1 = L.length := HM.out; simp [stepF]; omega⟩
        · refine lexP_step rfl rfl ?_
          unfold Oper.wp
          go_simp
          have HK1 := Lib.hid (show Kept wB.heap.size wB (W0.alloc (.cells #[.int .i64 (n : Int), .bool true, .bool false] 56)) from W0K.out.below.alloc W0K.out.below.size _)
          have HX1 := Lib.hid (elem_src W0 n true false 56)
          have HXL1 := Lib.hid (show W0.heap.size < (W0.alloc (.cells #[.int .i64 (n : Int), .bool true, .bool false] 56)).heap.size from by simp)
          have HXB1 := Lib.hid (show wB.heap.size ≤ W0.heap.size from W0K.out.below.size)
          refine ⟨HK1.out, ?_⟩
          clear W0K 
          generalize W0.alloc (.cells #[.int .i64 (n : Int), .bool true, .bool false] 56) = W1 at *
          generalize W0.heap.size = c1 at *
          refine lexP_step rfl rfl ?_
          unfold Oper.wp
          go_simp
          have HK2 := Lib.hid (show Kept wB.heap.size wB (W1.alloc (.cells #[] 56)) from HK1.out.below.alloc HK1.out.below.size _)
          have HO2 := Lib.hid (World.ownsRow_made W1 (e := 56) (base := W1.heap.size) (size := 3) #[] 0 (Nat.le_refl _) (Nat.zero_le _) (by simp))
          have HX2 := Lib.hid (fun q uu hq => ((Below.refl W1.heap.size W1).alloc (Nat.le_refl _) (.cells #[] 56)).cell (p := (⟨c1, 0, none⟩ : Addr).add q) (World.block_lt_of_cell? _ _ (HX1.out q uu hq)) |>.trans (HX1.out q uu hq))
          have HC2 := Lib.hid (fun q hq => (HO2.out.lt q hq).1)
          have HD2 := Lib.hid (show wB.heap.size ≤ W1.heap.size from HK1.out.below.size)
          have HO2 := Lib.hid (owns_base HO2.out (base' := wB.heap.size) (fun q hq => Nat.le_trans HD2.out (HC2.out q hq)))
          refine ⟨HK2.out, ?_⟩
          clear HK1
          generalize W1.alloc (.cells #[] 56) = W2 at *
          generalize W1.heap.size = b2 at *
          refine lexP_step rfl rfl ?_
          refine wp_append_src _ _ _ 27 rfl wB.heap.size 56 i0 _ 3 16 Try.underlying27 hi hz0 hz1 hz2 rfl (by decide) _ _ _ HO2.out HK2.out.below.size (some A1) T.length (cap - 1) (recV encF T) rfl rfl (recV_len encF_len T) (HSRC.out _ HK2.out) (recV_one encF_one T) (by have := HLN.out; omega) (by decide) ?_
          intro v3 W3 hown3 ho3 _
          have HO3 := Lib.hid (show W3.ownsRow wB.heap.size 56 3 v3 T.length (recV encF T) from by rw [Nat.zero_add, List.nil_append] at hown3; exact hown3)
          have HK3 := Lib.hid (show Kept wB.heap.size wB W3 from ho3.below HK2.out.below HK2.out.below.size (fun q hq => (HO2.out.lt q hq).1))
          have HX3 := Lib.hid (fun q uu hq => only_add ho3 (fun e => absurd (HC2.out _ e) (Nat.not_le.2 HXL1.out)) (HX2.out q uu hq))
          refine ⟨HK3.out, ?_⟩
          clear hown3 ho3 HK2 HO2 HX2
          simp only [List.getElem_toArray, List.getElem_cons_succ, List.getElem_cons_zero, Act.put, List.setIfInBounds_toArray, List.set_cons_zero, List.set_cons_succ]
          refine lexP_step rfl rfl ?_
          refine wp_append_src _ _ _ 27 rfl wB.heap.size 56 i0 _ 3 16 Try.underlying27 hi hz0 hz1 hz2 rfl (by decide) _ _ _ HO3.out HK3.out.below.size (some ⟨c1, 0, none⟩) 1 1 (encF (n, true, false)) rfl rfl rfl (fun _ => ⟨_, rfl, HX3.out⟩) (encF_one _) (by have := HLN.out; omega) (by decide) ?_
          intro v4 W4 hown4 ho4 _
          have HK4 := Lib.hid (show Kept wB.heap.size wB W4 from ho4.below HK3.out.below HK3.out.below.size (fun q hq => (HO3.out.lt q hq).1))
          have hown9 : W4.ownsRow wB.heap.size 56 3 v4 (T ++ [(n, true, false)]).length (recV encF (T ++ [(n, true, false)])) := by
            rw [List.length_append, recV_append, recV_single]
            exact hown4
          have HT := Lib.hid (HRB.out.set HK4.out.below hown9)
          have c9 := (HRB.out.later HK4.out.below).c0
          have f9 := (HRB.out.later HK4.out.below).fz
          obtain ⟨a9, cap9, hv9⟩ := owns_lenC hown9
          generalize (T ++ [(n, true, false)]).length = q9 at hv9
          subst hv9
          refine ⟨HK4.out, ?_⟩
          clear hown4 hown9 ho4 HK3 HO3
          simp only [List.getElem_toArray, List.getElem_cons_succ, List.getElem_cons_zero, Act.put, List.setIfInBounds_toArray, List.set_cons_zero, List.set_cons_succ]
          refine lexP_yieldE rfl rfl ?_
          apply Exists.intro
          refine ⟨fun W hW => ?_, ?_⟩
          focus (go_simp; exact rfl)
          simp only [List.getElem_toArray, List.getElem_cons_succ, List.getElem_cons_zero, Act.put, List.setIfInBounds_toArray, List.set_cons_zero, List.set_cons_succ]
          refine lexP_yieldE rfl rfl ?_
          apply Exists.intro
          refine ⟨fun W hW => ?_, ?_⟩
          focus (go_simp; exact rfl)
          simp only [List.getElem_toArray, List.getElem_cons_succ, List.getElem_cons_zero, Act.put, List.setIfInBounds_toArray, List.set_cons_zero, List.set_cons_succ]
          refine lexP_last rfl rfl ?_
          unfold Oper.wp
          go_simp
          go_wp2_with (fail)
          go_roundg (mass (T ++ [stepF (n, a, true)]))
          case measure => 
            have h1 := mass_look (x := (n, a, true)) (L := T)
            have h2 := wF_step (x := (n, a, true)) HQ.out
            have h3 := HKK.out
            omega
          case rel => exact ⟨_, _, rfl, TTurn.transC HTB.out HT.out, (nextL_pass HQ.out).symm.trans HN.out, by have h1 : T.length + 1 = L.length := HM.out; simp [stepF]; omega⟩
      | false =>
        cases a with
        | true =>
          have HQ := Lib.hid (show (((n, true, false) : Fr).2.1 || ((n, true, false) : Fr).2.2) = true from rfl)
          have b0 := HBX.out.cell 0 (by decide)
          have b1 := HBX.out.cell 1 (by decide)
          have b2 := HBX.out.cell 2 (by decide)
          have z1 := HBX.out.frozen 1
          have z2 := HBX.out.frozen 2
          simp only [if_true, if_false, Nat.reduceEqDiff] at b0 b1 b2
          obtain ⟨wB, hwB⟩ : ∃ wB, wB = (wr.alloc (.cells #[.int .i64 (n : Int), .bool false, .bool false] 56)) := ⟨_, rfl⟩
          have HBB := Lib.hid (show Below wr.heap.size wr wB from by
            rw [hwB]
            exact (Below.refl _ _).alloc (Nat.le_refl _) _)
          have HBR := Lib.hid (show RowAt wB wr.heap.size 3 (fun i => if i = 0 then .int .i64 (n : Int) else if i = 1 then .bool false else .bool false) from by
            rw [hwB]
            exact RowAt.new wr #[.int .i64 (n : Int), .bool false, .bool false] 56 3 _ (fun i hi => by
              rcases (show i = 0 ∨ i = 1 ∨ i = 2 by omega) with rfl | rfl | rfl <;> rfl))
          have HRB := Lib.hid (HRV.out.later HBB.out)
          have L1 := Lib.hid (show ∀ W', Kept wB.heap.size wB W' → (loadVar 27 ⟨r, 0, none⟩).run Try.prog W' = .ok (.slice (some ⟨g, 0, none⟩) (T.length + 1) cap) W' from
            fun W' hW => run_loadVar_cell (fun _ => by kernel_rfl) (by rw [(HRB.out.later hW.below).c0, HV2.out]; rfl))
          have L2 := Lib.hid (show ∀ W', Kept wB.heap.size wB W' → (loadVar 56 ⟨wr.heap.size, 0, none⟩).run Try.prog W' = .ok (.agg #[.int .i64 (n : Int), .bool false, .bool false]) W' from
            fun W' hW => load_fr ((HBR.out.later hW.below).cell 0 (by decide)) ((HBR.out.later hW.below).cell 1 (by decide)) ((HBR.out.later hW.below).cell 2 (by decide)))
          obtain ⟨A1, hA1, hS1⟩ : ∃ A1 : Addr, (0 < T.length → A1 = ⟨g, 3, none⟩) ∧ ∀ W, Kept wB.heap.size wB W → (Instr.sliceAt 27 (.slice (some ⟨g, 0, none⟩) (T.length + 1) cap) (some (.int .i64 1)) none none).run Try.prog W = .ok (.slice (some A1) T.length (cap - 1)) W :=
            ⟨_, fun hp => by rw [if_neg (by omega)], fun W _ => run_sub_from (P := Try.prog) Try.underlying27 sizeFr g 0 (T.length + 1) cap 1 (by omega) W⟩
          have S1 := Lib.hid hS1
          have HSRC := Lib.hid (show ∀ W, Kept wB.heap.size wB W → 0 < T.length → ∃ ad, some A1 = some ad ∧ ∀ j u, (recV encF T)[j]? = some u → W.cell? (ad.add j) = some u from fun W hW hp => ⟨_, rfl, fun j u hj => by
            rw [hA1 hp, Addr.add_lit]
            have hc := HCE.out (3 + j) u (by rw [recV, List.getElem?_append_right (by rw [encF_len]; omega), encF_len, Nat.add_sub_cancel_left]; exact hj)
            rw [hW.below.cell (p := ⟨g, 3 + j, none⟩) (Nat.lt_of_lt_of_le HGX.out HBB.out.size), HBB.out.cell (p := ⟨g, 3 + j, none⟩) HGX.out]
            exact hc⟩)
          have HLN := Lib.hid (show T.length + 1 ≤ 1000 from HTL.out)
          have HTB := Lib.hid (show TTurn w (thRf r v L) wB (thRf r v2 ((n, true, false) :: T)) from ttl HTT.out HBB.out)
          clear hS1 hA1 HBB
          go_wp2_with (fail)
          rw [← hwB]
          clear hwB b0 b1 b2 z1 z2 k0 k1 k2 c0 hp
          refine wp_region_plan (Kept wB.heap.size wB) (.take 0 (.take 2 (.take 3 (.take 4 (.take 5 (.take 6 (.take 8 (.step 1 (.step 7 (.step 9 (.step 10 (.take 11 (.take 12 .fin)) .fin) .fin) (.step 9 (.step 7 (.step 10 (.take 11 (.take 12 .fin)) .fin) .fin) .fin)) (.step 9 (.step 1 (.step 7 (.step 10 (.take 11 (.take 12 .fin)) .fin) .fin) .fin) .fin))))))))) 13
            (by kernel_rfl) (by kernel_rfl) (by kernel_rfl) (Below.refl _ wB).drew ?_
          intro W0 hW0 hK0
          clear hW0
          refine lexP_yieldE rfl rfl ?_
          apply Exists.intro
          refine ⟨fun W hW => ?_, ?_⟩
          focus (go_simp; exact rfl)
          simp only [List.getElem_toArray, List.getElem_cons_zero, Act.put, List.setIfInBounds_toArray, List.set_cons_zero, List.set_cons_succ]
          refine lexP_yieldE rfl rfl ?_
          apply Exists.intro
          refine ⟨fun W hW => ?_, ?_⟩
          focus (go_simp; exact rfl)
          simp only [List.getElem_toArray, List.getElem_cons_succ, List.getElem_cons_zero, Act.put, List.setIfInBounds_toArray, List.set_cons_zero, List.set_cons_succ]
          refine lexP_yieldE rfl rfl ?_
          apply Exists.intro
          refine ⟨fun W hW => ?_, ?_⟩
          focus (go_simp; exact rfl)
          simp only [List.getElem_toArray, List.getElem_cons_succ, List.getElem_cons_zero, Act.put, List.setIfInBounds_toArray, List.set_cons_zero, List.set_cons_succ]
          refine lexP_yieldE rfl rfl ?_
          apply Exists.intro
          refine ⟨fun W hW => ?_, ?_⟩
          focus (go_simp; exact rfl)
          simp only [List.getElem_toArray, List.getElem_cons_succ, List.getElem_cons_zero, Act.put, List.setIfInBounds_toArray, List.set_cons_zero, List.set_cons_succ]
          refine lexP_load rfl rfl _ _ rfl rfl L1.out ?_
          simp only [List.getElem_toArray, List.getElem_cons_succ, List.getElem_cons_zero, Act.put, List.setIfInBounds_toArray, List.set_cons_zero, List.set_cons_succ]
          refine lexP_slice rfl rfl _ _ _ _ _ rfl S1.out ?_
          simp only [List.getElem_toArray, List.getElem_cons_succ, List.getElem_cons_zero, Act.put, List.setIfInBounds_toArray, List.set_cons_zero, List.set_cons_succ]
          refine lexP_load rfl rfl _ _ rfl rfl L2.out ?_
          simp only [List.getElem_toArray, List.getElem_cons_succ, List.getElem_cons_zero, Act.put, List.setIfInBounds_toArray, List.set_cons_zero, List.set_cons_succ]
          have W0K := Lib.hid hK0
          clear hK0
          refine lexP_or rfl rfl ?_ ?_
          · skip
            unfold Oper.wp
            go_simp
            have HK1 := Lib.hid (show Kept wB.heap.size wB (W0.alloc (.cells #[] 56)) from W0K.out.below.alloc W0K.out.below.size _)
            have HO1 := Lib.hid (World.ownsRow_made W0 (e := 56) (base := wB.heap.size) (size := 3) #[] 0 W0K.out.below.size (Nat.zero_le _) (by simp))
            refine ⟨HK1.out, ?_⟩
            clear W0K
            generalize W0.alloc (.cells #[] 56) = W1 at *
            generalize W0.heap.size = b1 at *
            refine lexP_or rfl rfl ?_ ?_
            · skip
              refine wp_append_src _ _ _ 27 rfl wB.heap.size 56 i0 _ 3 16 Try.underlying27 hi hz0 hz1 hz2 rfl (by decide) _ _ _ HO1.out HK1.out.below.size (some A1) T.length (cap - 1) (recV encF T) rfl rfl (recV_len encF_len T) (HSRC.out _ HK1.out) (recV_one encF_one T) (by have := HLN.out; omega) (by decide) ?_
              intro v2 W2 hown2 ho2 _
              have HO2 := Lib.hid (show W2.ownsRow wB.heap.size 56 3 v2 T.length (recV encF T) from by rw [Nat.zero_add, List.nil_append] at hown2; exact hown2)
              have HK2 := Lib.hid (show Kept wB.heap.size wB W2 from ho2.below HK1.out.below HK1.out.below.size (fun q hq => (HO1.out.lt q hq).1))
              refine ⟨HK2.out, ?_⟩
              clear hown2 ho2 HK1 HO1
              simp only [List.getElem_toArray, List.getElem_cons_succ, List.getElem_cons_zero, Act.put, List.setIfInBounds_toArray, List.set_cons_zero, List.set_cons_succ]
              refine lexP_step rfl rfl ?_
              unfold Oper.wp
              go_simp
              have HK3 := Lib.hid (show Kept wB.heap.size wB (W2.alloc (.cells #[.int .i64 (n : Int), .bool false, .bool false] 56)) from HK2.out.below.alloc HK2.out.below.size _)
              have HX3 := Lib.hid (elem_src W2 n false false 56)
              have HXL3 := Lib.hid (show W2.heap.size < (W2.alloc (.cells #[.int .i64 (n : Int), .bool false, .bool false] 56)).heap.size from by simp)
              have HXB3 := Lib.hid (show wB.heap.size ≤ W2.heap.size from HK2.out.below.size)
              have HO3 := Lib.hid (HO2.out.alloc (.cells #[.int .i64 (n : Int), .bool false, .bool false] 56))
              have HE3 := Lib.hid (fun q hq => (HO2.out.lt q hq).2)
              refine ⟨HK3.out, ?_⟩
              clear HK2 HO2
              generalize W2.alloc (.cells #[.int .i64 (n : Int), .bool false, .bool false] 56) = W3 at *
              generalize W2.heap.size = c3 at *
              refine lexP_step rfl rfl ?_
              refine wp_append_src _ _ _ 27 rfl wB.heap.size 56 i0 _ 3 16 Try.underlying27 hi hz0 hz1 hz2 rfl (by decide) _ _ _ HO3.out HK3.out.below.size (some ⟨c3, 0, none⟩) 1 1 (encF (n, false, false)) rfl rfl rfl (fun _ => ⟨_, rfl, HX3.out⟩) (encF_one _) (by have := HLN.out; omega) (by decide) ?_
              intro v4 W4 hown4 ho4 _
              have HK4 := Lib.hid (show Kept wB.heap.size wB W4 from ho4.below HK3.out.below HK3.out.below.size (fun q hq => (HO3.out.lt q hq).1))
              have hown9 : W4.ownsRow wB.heap.size 56 3 v4 (T ++ [(n, false, false)]).length (recV encF (T ++ [(n, false, false)])) := by
                rw [List.length_append, recV_append, recV_single]
                exact hown4
              have HT := Lib.hid (HRB.out.set HK4.out.below hown9)
              have c9 := (HRB.out.later HK4.out.below).c0
              have f9 := (HRB.out.later HK4.out.below).fz
              obtain ⟨a9, cap9, hv9⟩ := owns_lenC hown9
              generalize (T ++ [(n, false, false)]).length = q9 at hv9
              subst hv9
              refine ⟨HK4.out, ?_⟩
              clear hown4 hown9 ho4 HK3 HO3
              simp only [List.getElem_toArray, List.getElem_cons_succ, List.getElem_cons_zero, Act.put, List.setIfInBounds_toArray, List.set_cons_zero, List.set_cons_succ]
              refine lexP_yieldE rfl rfl ?_
              apply Exists.intro
              refine ⟨fun W hW => ?_, ?_⟩
              focus (go_simp; exact rfl)
              simp only [List.getElem_toArray, List.getElem_cons_succ, List.getElem_cons_zero, Act.put, List.setIfInBounds_toArray, List.set_cons_zero, List.set_cons_succ]
              refine lexP_yieldE rfl rfl ?_
              apply Exists.intro
              refine ⟨fun W hW => ?_, ?_⟩
              focus (go_simp; exact rfl)
              simp only [List.getElem_toArray, List.getElem_cons_succ, List.getElem_cons_zero, Act.put, List.setIfInBounds_toArray, List.set_cons_zero, List.set_cons_succ]
              refine lexP_last rfl rfl ?_
              unfold Oper.wp
              go_simp
              go_wp2_with (fail)
              go_roundg (mass (T ++ [stepF (n, true, false)]))
              case measure => 
                have h1 := mass_look (x := (n, true, false)) (L := T)
                have h2 := wF_step (x := (n, true, false)) HQ.out
                have h3 := HKK.out
                omega
              case rel => exact ⟨_, _, rfl, TTurn.transC HTB.out HT.out, (nextL_pass HQ.out).symm.trans HN.out, by have h1 : T.length + 1 = L.length := HM.out; simp [stepF]; omega⟩
            · refine lexP_step rfl rfl ?_
              unfold Oper.wp
              go_simp
              have HK2 := Lib.hid (show Kept wB.heap.size wB (W1.alloc (.cells #[.int .i64 (n : Int), .bool false, .bool false] 56)) from HK1.out.below.alloc HK1.out.below.size _)
              have HX2 := Lib.hid (elem_src W1 n false false 56)
              have HXL2 := Lib.hid (show W1.heap.size < (W1.alloc (.cells #[.int .i64 (n : Int), .bool false, .bool false] 56)).heap.size from by simp)
              have HXB2 := Lib.hid (show wB.heap.size ≤ W1.heap.size from HK1.out.below.size)
              have HO2 := Lib.hid (HO1.out.alloc (.cells #[.int .i64 (n : Int), .bool false, .bool false] 56))
              have HE2 := Lib.hid (fun q hq => (HO1.out.lt q hq).2)
              refine ⟨HK2.out, ?_⟩
              clear HK1 HO1
              generalize W1.alloc (.cells #[.int .i64 (n : Int), .bool false, .bool false] 56) = W2 at *
              generalize W1.heap.size = c2 at *
              refine lexP_step rfl rfl ?_
              refine wp_append_src _ _ _ 27 rfl wB.heap.size 56 i0 _ 3 16 Try.underlying27 hi hz0 hz1 hz2 rfl (by decide) _ _ _ HO2.out HK2.out.below.size (some A1) T.length (cap - 1) (recV encF T) rfl rfl (recV_len encF_len T) (HSRC.out _ HK2.out) (recV_one encF_one T) (by have := HLN.out; omega) (by decide) ?_
              intro v3 W3 hown3 ho3 _
              have HO3 := Lib.hid (show W3.ownsRow wB.heap.size 56 3 v3 T.length (recV encF T) from by rw [Nat.zero_add, List.nil_append] at hown3; exact hown3)
              have HK3 := Lib.hid (show Kept wB.heap.size wB W3 from ho3.below HK2.out.below HK2.out.below.size (fun q hq => (HO2.out.lt q hq).1))
              have HX3 := Lib.hid (fun q uu hq => only_add ho3 (fun e => absurd (HE2.out _ e) (Nat.lt_irrefl _)) (HX2.out q uu hq))
              refine ⟨HK3.out, ?_⟩
              clear hown3 ho3 HK2 HO2 HX2
              simp only [List.getElem_toArray, List.getElem_cons_succ, List.getElem_cons_zero, Act.put, List.setIfInBounds_toArray, List.set_cons_zero, List.set_cons_succ]
              refine lexP_step rfl rfl ?_
              refine wp_append_src _ _ _ 27 rfl wB.heap.size 56 i0 _ 3 16 Try.underlying27 hi hz0 hz1 hz2 rfl (by decide) _ _ _ HO3.out HK3.out.below.size (some ⟨c2, 0, none⟩) 1 1 (encF (n, false, false)) rfl rfl rfl (fun _ => ⟨_, rfl, HX3.out⟩) (encF_one _) (by have := HLN.out; omega) (by decide) ?_
              intro v4 W4 hown4 ho4 _
              have HK4 := Lib.hid (show Kept wB.heap.size wB W4 from ho4.below HK3.out.below HK3.out.below.size (fun q hq => (HO3.out.lt q hq).1))
              have hown9 : W4.ownsRow wB.heap.size 56 3 v4 (T ++ [(n, false, false)]).length (recV encF (T ++ [(n, false, false)])) := by
                rw [List.length_append, recV_append, recV_single]
                exact hown4
              have HT := Lib.hid (HRB.out.set HK4.out.below hown9)
              have c9 := (HRB.out.later HK4.out.below).c0
              have f9 := (HRB.out.later HK4.out.below).fz
              obtain ⟨a9, cap9, hv9⟩ := owns_lenC hown9
              generalize (T ++ [(n, false, false)]).length = q9 at hv9
              subst hv9
              refine ⟨HK4.out, ?_⟩
              clear hown4 hown9 ho4 HK3 HO3
              simp only [List.getElem_toArray, List.getElem_cons_succ, List.getElem_cons_zero, Act.put, List.setIfInBounds_toArray, List.set_cons_zero, List.set_cons_succ]
              refine lexP_yieldE rfl rfl ?_
              apply Exists.intro
              refine ⟨fun W hW => ?_, ?_⟩
              focus (go_simp; exact rfl)
              simp only [List.getElem_toArray, List.getElem_cons_succ, List.getElem_cons_zero, Act.put, List.setIfInBounds_toArray, List.set_cons_zero, List.set_cons_succ]
              refine lexP_yieldE rfl rfl ?_
              apply Exists.intro
              refine ⟨fun W hW => ?_, ?_⟩
              focus (go_simp; exact rfl)
              simp only [List.getElem_toArray, List.getElem_cons_succ, List.getElem_cons_zero, Act.put, List.setIfInBounds_toArray, List.set_cons_zero, List.set_cons_succ]
              refine lexP_last rfl rfl ?_
              unfold Oper.wp
              go_simp
              go_wp2_with (fail)
              go_roundg (mass (T ++ [stepF (n, true, false)]))
              case measure => 
                have h1 := mass_look (x := (n, true, false)) (L := T)
                have h2 := wF_step (x := (n, true, false)) HQ.out
                have h3 := HKK.out
                omega
              case rel => exact ⟨_, _, rfl, TTurn.transC HTB.out HT.out, (nextL_pass HQ.out).symm.trans HN.out, by have h1 : T.length + 1 = L.length := HM.out; simp [stepF]; omega⟩
          · refine lexP_step rfl rfl ?_
            unfold Oper.wp
            go_simp
            have HK1 := Lib.hid (show Kept wB.heap.size wB (W0.alloc (.cells #[.int .i64 (n : Int), .bool false, .bool false] 56)) from W0K.out.below.alloc W0K.out.below.size _)
            have HX1 := Lib.hid (elem_src W0 n false false 56)
            have HXL1 := Lib.hid (show W0.heap.size < (W0.alloc (.cells #[.int .i64 (n : Int), .bool false, .bool false] 56)).heap.size from by simp)
            have HXB1 := Lib.hid (show wB.heap.size ≤ W0.heap.size from W0K.out.below.size)
            refine ⟨HK1.out, ?_⟩
            clear W0K 
            generalize W0.alloc (.cells #[.int .i64 (n : Int), .bool false, .bool false] 56) = W1 at *
            generalize W0.heap.size = c1 at *
            refine lexP_step rfl rfl ?_
            unfold Oper.wp
            go_simp
            have HK2 := Lib.hid (show Kept wB.heap.size wB (W1.alloc (.cells #[] 56)) from HK1.out.below.alloc HK1.out.below.size _)
            have HO2 := Lib.hid (World.ownsRow_made W1 (e := 56) (base := W1.heap.size) (size := 3) #[] 0 (Nat.le_refl _) (Nat.zero_le _) (by simp))
            have HX2 := Lib.hid (fun q uu hq => ((Below.refl W1.heap.size W1).alloc (Nat.le_refl _) (.cells #[] 56)).cell (p := (⟨c1, 0, none⟩ : Addr).add q) (World.block_lt_of_cell? _ _ (HX1.out q uu hq)) |>.trans (HX1.out q uu hq))
            have HC2 := Lib.hid (fun q hq => (HO2.out.lt q hq).1)
            have HD2 := Lib.hid (show wB.heap.size ≤ W1.heap.size from HK1.out.below.size)
            have HO2 := Lib.hid (owns_base HO2.out (base' := wB.heap.size) (fun q hq => Nat.le_trans HD2.out (HC2.out q hq)))
            refine ⟨HK2.out, ?_⟩
            clear HK1
            generalize W1.alloc (.cells #[] 56) = W2 at *
            generalize W1.heap.size = b2 at *
            refine lexP_step rfl rfl ?_
            refine wp_append_src _ _ _ 27 rfl wB.heap.size 56 i0 _ 3 16 Try.underlying27 hi hz0 hz1 hz2 rfl (by decide) _ _ _ HO2.out HK2.out.below.size (some A1) T.length (cap - 1) (recV encF T) rfl rfl (recV_len encF_len T) (HSRC.out _ HK2.out) (recV_one encF_one T) (by have := HLN.out; omega) (by decide) ?_
            intro v3 W3 hown3 ho3 _
            have HO3 := Lib.hid (show W3.ownsRow wB.heap.size 56 3 v3 T.length (recV encF T) from by rw [Nat.zero_add, List.nil_append] at hown3; exact hown3)
            have HK3 := Lib.hid (show Kept wB.heap.size wB W3 from ho3.below HK2.out.below HK2.out.below.size (fun q hq => (HO2.out.lt q hq).1))
            have HX3 := Lib.hid (fun q uu hq => only_add ho3 (fun e => absurd (HC2.out _ e) (Nat.not_le.2 HXL1.out)) (HX2.out q uu hq))
            refine ⟨HK3.out, ?_⟩
            clear hown3 ho3 HK2 HO2 HX2
            simp only [List.getElem_toArray, List.getElem_cons_succ, List.getElem_cons_zero, Act.put, List.setIfInBounds_toArray, List.set_cons_zero, List.set_cons_succ]
            refine lexP_step rfl rfl ?_
            refine wp_append_src _ _ _ 27 rfl wB.heap.size 56 i0 _ 3 16 Try.underlying27 hi hz0 hz1 hz2 rfl (by decide) _ _ _ HO3.out HK3.out.below.size (some ⟨c1, 0, none⟩) 1 1 (encF (n, false, false)) rfl rfl rfl (fun _ => ⟨_, rfl, HX3.out⟩) (encF_one _) (by have := HLN.out; omega) (by decide) ?_
            intro v4 W4 hown4 ho4 _
            have HK4 := Lib.hid (show Kept wB.heap.size wB W4 from ho4.below HK3.out.below HK3.out.below.size (fun q hq => (HO3.out.lt q hq).1))
            have hown9 : W4.ownsRow wB.heap.size 56 3 v4 (T ++ [(n, false, false)]).length (recV encF (T ++ [(n, false, false)])) := by
              rw [List.length_append, recV_append, recV_single]
              exact hown4
            have HT := Lib.hid (HRB.out.set HK4.out.below hown9)
            have c9 := (HRB.out.later HK4.out.below).c0
            have f9 := (HRB.out.later HK4.out.below).fz
            obtain ⟨a9, cap9, hv9⟩ := owns_lenC hown9
            generalize (T ++ [(n, false, false)]).length = q9 at hv9
            subst hv9
            refine ⟨HK4.out, ?_⟩
            clear hown4 hown9 ho4 HK3 HO3
            simp only [List.getElem_toArray, List.getElem_cons_succ, List.getElem_cons_zero, Act.put, List.setIfInBounds_toArray, List.set_cons_zero, List.set_cons_succ]
            refine lexP_yieldE rfl rfl ?_
            apply Exists.intro
            refine ⟨fun W hW => ?_, ?_⟩
            focus (go_simp; exact rfl)
            simp only [List.getElem_toArray, List.getElem_cons_succ, List.getElem_cons_zero, Act.put, List.setIfInBounds_toArray, List.set_cons_zero, List.set_cons_succ]
            refine lexP_yieldE rfl rfl ?_
            apply Exists.intro
            refine ⟨fun W hW => ?_, ?_⟩
            focus (go_simp; exact rfl)
            simp only [List.getElem_toArray, List.getElem_cons_succ, List.getElem_cons_zero, Act.put, List.setIfInBounds_toArray, List.set_cons_zero, List.set_cons_succ]
            refine lexP_last rfl rfl ?_
            unfold Oper.wp
            go_simp
            go_wp2_with (fail)
            go_roundg (mass (T ++ [stepF (n, true, false)]))
            case measure => 
              have h1 := mass_look (x := (n, true, false)) (L := T)
              have h2 := wF_step (x := (n, true, false)) HQ.out
              have h3 := HKK.out
              omega
            case rel => exact ⟨_, _, rfl, TTurn.transC HTB.out HT.out, (nextL_pass HQ.out).symm.trans HN.out, by have h1 : T.length + 1 = L.length := HM.out; simp [stepF]; omega⟩
        | false =>
          have b0 := HBX.out.cell 0 (by decide)
          have b1 := HBX.out.cell 1 (by decide)
          have b2 := HBX.out.cell 2 (by decide)
          have z1 := HBX.out.frozen 1
          have z2 := HBX.out.frozen 2
          simp only [if_true, if_false, Nat.reduceEqDiff] at b0 b1 b2
          obtain ⟨wB, hwB⟩ : ∃ wB, wB = (wr.alloc (.cells #[.int .i64 (n : Int), .bool false, .bool false] 56)) := ⟨_, rfl⟩
          have HBB := Lib.hid (show Below wr.heap.size wr wB from by
            rw [hwB]
            exact (Below.refl _ _).alloc (Nat.le_refl _) _)
          have HBR := Lib.hid (show RowAt wB wr.heap.size 3 (fun i => if i = 0 then .int .i64 (n : Int) else if i = 1 then .bool false else .bool false) from by
            rw [hwB]
            exact RowAt.new wr #[.int .i64 (n : Int), .bool false, .bool false] 56 3 _ (fun i hi => by
              rcases (show i = 0 ∨ i = 1 ∨ i = 2 by omega) with rfl | rfl | rfl <;> rfl))
          have HRB := Lib.hid (HRV.out.later HBB.out)
          have L1 := Lib.hid (show ∀ W', Kept wB.heap.size wB W' → (loadVar 27 ⟨r, 0, none⟩).run Try.prog W' = .ok (.slice (some ⟨g, 0, none⟩) (T.length + 1) cap) W' from
            fun W' hW => run_loadVar_cell (fun _ => by kernel_rfl) (by rw [(HRB.out.later hW.below).c0, HV2.out]; rfl))
          have L2 := Lib.hid (show ∀ W', Kept wB.heap.size wB W' → (loadVar 56 ⟨wr.heap.size, 0, none⟩).run Try.prog W' = .ok (.agg #[.int .i64 (n : Int), .bool false, .bool false]) W' from
            fun W' hW => load_fr ((HBR.out.later hW.below).cell 0 (by decide)) ((HBR.out.later hW.below).cell 1 (by decide)) ((HBR.out.later hW.below).cell 2 (by decide)))
          obtain ⟨A1, hA1, hS1⟩ : ∃ A1 : Addr, (0 < T.length → A1 = ⟨g, 3, none⟩) ∧ ∀ W, Kept wB.heap.size wB W → (Instr.sliceAt 27 (.slice (some ⟨g, 0, none⟩) (T.length + 1) cap) (some (.int .i64 1)) none none).run Try.prog W = .ok (.slice (some A1) T.length (cap - 1)) W :=
            ⟨_, fun hp => by rw [if_neg (by omega)], fun W _ => run_sub_from (P := Try.prog) Try.underlying27 sizeFr g 0 (T.length + 1) cap 1 (by omega) W⟩
          have S1 := Lib.hid hS1
          have HSRC := Lib.hid (show ∀ W, Kept wB.heap.size wB W → 0 < T.length → ∃ ad, some A1 = some ad ∧ ∀ j u, (recV encF T)[j]? = some u → W.cell? (ad.add j) = some u from fun W hW hp => ⟨_, rfl, fun j u hj => by
            rw [hA1 hp, Addr.add_lit]
            have hc := HCE.out (3 + j) u (by rw [recV, List.getElem?_append_right (by rw [encF_len]; omega), encF_len, Nat.add_sub_cancel_left]; exact hj)
            rw [hW.below.cell (p := ⟨g, 3 + j, none⟩) (Nat.lt_of_lt_of_le HGX.out HBB.out.size), HBB.out.cell (p := ⟨g, 3 + j, none⟩) HGX.out]
            exact hc⟩)
          have HLN := Lib.hid (show T.length + 1 ≤ 1000 from HTL.out)
          have HTB := Lib.hid (show TTurn w (thRf r v L) wB (thRf r v2 ((n, false, false) :: T)) from ttl HTT.out HBB.out)
          clear hS1 hA1 HBB
          go_wp2_with (fail)
          rw [← hwB]
          clear hwB b0 b1 b2 z1 z2 k0 k1 k2 c0 hp
          refine wp_region_plan (Kept wB.heap.size wB) (.take 0 (.take 2 (.take 3 (.take 4 (.take 5 (.take 6 (.take 8 (.step 1 (.step 7 (.step 9 (.step 10 (.take 11 (.take 12 .fin)) .fin) .fin) (.step 9 (.step 7 (.step 10 (.take 11 (.take 12 .fin)) .fin) .fin) .fin)) (.step 9 (.step 1 (.step 7 (.step 10 (.take 11 (.take 12 .fin)) .fin) .fin) .fin) .fin))))))))) 13
            (by kernel_rfl) (by kernel_rfl) (by kernel_rfl) (Below.refl _ wB).drew ?_
          intro W0 hW0 hK0
          clear hW0
          refine lexP_yieldE rfl rfl ?_
          apply Exists.intro
          refine ⟨fun W hW => ?_, ?_⟩
          focus (go_simp; exact rfl)
          simp only [List.getElem_toArray, List.getElem_cons_zero, Act.put, List.setIfInBounds_toArray, List.set_cons_zero, List.set_cons_succ]
          refine lexP_yieldE rfl rfl ?_
          apply Exists.intro
          refine ⟨fun W hW => ?_, ?_⟩
          focus (go_simp; exact rfl)
          simp only [List.getElem_toArray, List.getElem_cons_succ, List.getElem_cons_zero, Act.put, List.setIfInBounds_toArray, List.set_cons_zero, List.set_cons_succ]
          refine lexP_yieldE rfl rfl ?_
          apply Exists.intro
          refine ⟨fun W hW => ?_, ?_⟩
          focus (go_simp; exact rfl)
          simp only [List.getElem_toArray, List.getElem_cons_succ, List.getElem_cons_zero, Act.put, List.setIfInBounds_toArray, List.set_cons_zero, List.set_cons_succ]
          refine lexP_yieldE rfl rfl ?_
          apply Exists.intro
          refine ⟨fun W hW => ?_, ?_⟩
          focus (go_simp; exact rfl)
          simp only [List.getElem_toArray, List.getElem_cons_succ, List.getElem_cons_zero, Act.put, List.setIfInBounds_toArray, List.set_cons_zero, List.set_cons_succ]
          refine lexP_load rfl rfl _ _ rfl rfl L1.out ?_
          simp only [List.getElem_toArray, List.getElem_cons_succ, List.getElem_cons_zero, Act.put, List.setIfInBounds_toArray, List.set_cons_zero, List.set_cons_succ]
          refine lexP_slice rfl rfl _ _ _ _ _ rfl S1.out ?_
          simp only [List.getElem_toArray, List.getElem_cons_succ, List.getElem_cons_zero, Act.put, List.setIfInBounds_toArray, List.set_cons_zero, List.set_cons_succ]
          refine lexP_load rfl rfl _ _ rfl rfl L2.out ?_
          simp only [List.getElem_toArray, List.getElem_cons_succ, List.getElem_cons_zero, Act.put, List.setIfInBounds_toArray, List.set_cons_zero, List.set_cons_succ]
          have W0K := Lib.hid hK0
          clear hK0
          refine lexP_or rfl rfl ?_ ?_
          · skip
            unfold Oper.wp
            go_simp
            have HK1 := Lib.hid (show Kept wB.heap.size wB (W0.alloc (.cells #[] 56)) from W0K.out.below.alloc W0K.out.below.size _)
            have HO1 := Lib.hid (World.ownsRow_made W0 (e := 56) (base := wB.heap.size) (size := 3) #[] 0 W0K.out.below.size (Nat.zero_le _) (by simp))
            refine ⟨HK1.out, ?_⟩
            clear W0K
            generalize W0.alloc (.cells #[] 56) = W1 at *
            generalize W0.heap.size = b1 at *
            refine lexP_or rfl rfl ?_ ?_
            · skip
              refine wp_append_src _ _ _ 27 rfl wB.heap.size 56 i0 _ 3 16 Try.underlying27 hi hz0 hz1 hz2 rfl (by decide) _ _ _ HO1.out HK1.out.below.size (some A1) T.length (cap - 1) (recV encF T) rfl rfl (recV_len encF_len T) (HSRC.out _ HK1.out) (recV_one encF_one T) (by have := HLN.out; omega) (by decide) ?_
              intro v2 W2 hown2 ho2 _
              have HO2 := Lib.hid (show W2.ownsRow wB.heap.size 56 3 v2 T.length (recV encF T) from by rw [Nat.zero_add, List.nil_append] at hown2; exact hown2)
              have HK2 := Lib.hid (show Kept wB.heap.size wB W2 from ho2.below HK1.out.below HK1.out.below.size (fun q hq => (HO1.out.lt q hq).1))
              refine ⟨HK2.out, ?_⟩
              clear hown2 ho2 HK1 HO1
              simp only [List.getElem_toArray, List.getElem_cons_succ, List.getElem_cons_zero, Act.put, List.setIfInBounds_toArray, List.set_cons_zero, List.set_cons_succ]
              refine lexP_step rfl rfl ?_
              unfold Oper.wp
              go_simp
              have HK3 := Lib.hid (show Kept wB.heap.size wB (W2.alloc (.cells #[.int .i64 (n : Int), .bool false, .bool false] 56)) from HK2.out.below.alloc HK2.out.below.size _)
              have HX3 := Lib.hid (elem_src W2 n false false 56)
              have HXL3 := Lib.hid (show W2.heap.size < (W2.alloc (.cells #[.int .i64 (n : Int), .bool false, .bool false] 56)).heap.size from by simp)
              have HXB3 := Lib.hid (show wB.heap.size ≤ W2.heap.size from HK2.out.below.size)
              have HO3 := Lib.hid (HO2.out.alloc (.cells #[.int .i64 (n : Int), .bool false, .bool false] 56))
              have HE3 := Lib.hid (fun q hq => (HO2.out.lt q hq).2)
              refine ⟨HK3.out, ?_⟩
              clear HK2 HO2
              generalize W2.alloc (.cells #[.int .i64 (n : Int), .bool false, .bool false] 56) = W3 at *
              generalize W2.heap.size = c3 at *
              refine lexP_step rfl rfl ?_
              refine wp_append_src _ _ _ 27 rfl wB.heap.size 56 i0 _ 3 16 Try.underlying27 hi hz0 hz1 hz2 rfl (by decide) _ _ _ HO3.out HK3.out.below.size (some ⟨c3, 0, none⟩) 1 1 (encF (n, false, false)) rfl rfl rfl (fun _ => ⟨_, rfl, HX3.out⟩) (encF_one _) (by have := HLN.out; omega) (by decide) ?_
              intro v4 W4 hown4 ho4 _
              have HK4 := Lib.hid (show Kept wB.heap.size wB W4 from ho4.below HK3.out.below HK3.out.below.size (fun q hq => (HO3.out.lt q hq).1))
              have hown9 : W4.ownsRow wB.heap.size 56 3 v4 (T ++ [(n, false, false)]).length (recV encF (T ++ [(n, false, false)])) := by
                rw [List.length_append, recV_append, recV_single]
                exact hown4
              have HT := Lib.hid (HRB.out.set HK4.out.below hown9)
              have c9 := (HRB.out.later HK4.out.below).c0
              have f9 := (HRB.out.later HK4.out.below).fz
              obtain ⟨a9, cap9, hv9⟩ := owns_lenC hown9
              generalize (T ++ [(n, false, false)]).length = q9 at hv9
              subst hv9
              refine ⟨HK4.out, ?_⟩
              clear hown4 hown9 ho4 HK3 HO3
              simp only [List.getElem_toArray, List.getElem_cons_succ, List.getElem_cons_zero, Act.put, List.setIfInBounds_toArray, List.set_cons_zero, List.set_cons_succ]
              refine lexP_yieldE rfl rfl ?_
              apply Exists.intro
              refine ⟨fun W hW => ?_, ?_⟩
              focus (go_simp; exact rfl)
              simp only [List.getElem_toArray, List.getElem_cons_succ, List.getElem_cons_zero, Act.put, List.setIfInBounds_toArray, List.set_cons_zero, List.set_cons_succ]
              refine lexP_yieldE rfl rfl ?_
              apply Exists.intro
              refine ⟨fun W hW => ?_, ?_⟩
              focus (go_simp; exact rfl)
              simp only [List.getElem_toArray, List.getElem_cons_succ, List.getElem_cons_zero, Act.put, List.setIfInBounds_toArray, List.set_cons_zero, List.set_cons_succ]
              refine lexP_last rfl rfl ?_
              unfold Oper.wp
              go_simp
              have kc := (Only.setCell (S := fun k => k = r) W4 ⟨r, 0, none⟩ rfl (.slice a9 q9 cap9)).cell (b := wr.heap.size) (fun e => by have := HRX.out; omega) ((HBR.out.later HK4.out.below).cell 0 (by decide))
              simp only [if_true] at kc
              go_wp2_with (fail)
              go_ret2
              have hnn := HN.out
              rw [nextL_quiet (x := (n, false, false)) ⟨rfl, rfl⟩] at hnn
              unfold RfT
              rw [← hnn]
              exact ⟨rfl, _, TTurn.transC HTB.out HT.out⟩
            · refine lexP_step rfl rfl ?_
              unfold Oper.wp
              go_simp
              have HK2 := Lib.hid (show Kept wB.heap.size wB (W1.alloc (.cells #[.int .i64 (n : Int), .bool false, .bool false] 56)) from HK1.out.below.alloc HK1.out.below.size _)
              have HX2 := Lib.hid (elem_src W1 n false false 56)
              have HXL2 := Lib.hid (show W1.heap.size < (W1.alloc (.cells #[.int .i64 (n : Int), .bool false, .bool false] 56)).heap.size from by simp)
              have HXB2 := Lib.hid (show wB.heap.size ≤ W1.heap.size from HK1.out.below.size)
              have HO2 := Lib.hid (HO1.out.alloc (.cells #[.int .i64 (n : Int), .bool false, .bool false] 56))
              have HE2 := Lib.hid (fun q hq => (HO1.out.lt q hq).2)
              refine ⟨HK2.out, ?_⟩
              clear HK1 HO1
              generalize W1.alloc (.cells #[.int .i64 (n : Int), .bool false, .bool false] 56) = W2 at *
              generalize W1.heap.size = c2 at *
              refine lexP_step rfl rfl ?_
              refine wp_append_src _ _ _ 27 rfl wB.heap.size 56 i0 _ 3 16 Try.underlying27 hi hz0 hz1 hz2 rfl (by decide) _ _ _ HO2.out HK2.out.below.size (some A1) T.length (cap - 1) (recV encF T) rfl rfl (recV_len encF_len T) (HSRC.out _ HK2.out) (recV_one encF_one T) (by have := HLN.out; omega) (by decide) ?_
              intro v3 W3 hown3 ho3 _
              have HO3 := Lib.hid (show W3.ownsRow wB.heap.size 56 3 v3 T.length (recV encF T) from by rw [Nat.zero_add, List.nil_append] at hown3; exact hown3)
              have HK3 := Lib.hid (show Kept wB.heap.size wB W3 from ho3.below HK2.out.below HK2.out.below.size (fun q hq => (HO2.out.lt q hq).1))
              have HX3 := Lib.hid (fun q uu hq => only_add ho3 (fun e => absurd (HE2.out _ e) (Nat.lt_irrefl _)) (HX2.out q uu hq))
              refine ⟨HK3.out, ?_⟩
              clear hown3 ho3 HK2 HO2 HX2
              simp only [List.getElem_toArray, List.getElem_cons_succ, List.getElem_cons_zero, Act.put, List.setIfInBounds_toArray, List.set_cons_zero, List.set_cons_succ]
              refine lexP_step rfl rfl ?_
              refine wp_append_src _ _ _ 27 rfl wB.heap.size 56 i0 _ 3 16 Try.underlying27 hi hz0 hz1 hz2 rfl (by decide) _ _ _ HO3.out HK3.out.below.size (some ⟨c2, 0, none⟩) 1 1 (encF (n, false, false)) rfl rfl rfl (fun _ => ⟨_, rfl, HX3.out⟩) (encF_one _) (by have := HLN.out; omega) (by decide) ?_
              intro v4 W4 hown4 ho4 _
              have HK4 := Lib.hid (show Kept wB.heap.size wB W4 from ho4.below HK3.out.below HK3.out.below.size (fun q hq => (HO3.out.lt q hq).1))
              have hown9 : W4.ownsRow wB.heap.size 56 3 v4 (T ++ [(n, false, false)]).length (recV encF (T ++ [(n, false, false)])) := by
                rw [List.length_append, recV_append, recV_single]
                exact hown4
              have HT := Lib.hid (HRB.out.set HK4.out.below hown9)
              have c9 := (HRB.out.later HK4.out.below).c0
              have f9 := (HRB.out.later HK4.out.below).fz
              obtain ⟨a9, cap9, hv9⟩ := owns_lenC hown9
              generalize (T ++ [(n, false, false)]).length = q9 at hv9
              subst hv9
              refine ⟨HK4.out, ?_⟩
              clear hown4 hown9 ho4 HK3 HO3
              simp only [List.getElem_toArray, List.getElem_cons_succ, List.getElem_cons_zero, Act.put, List.setIfInBounds_toArray, List.set_cons_zero, List.set_cons_succ]
              refine lexP_yieldE rfl rfl ?_
              apply Exists.intro
              refine ⟨fun W hW => ?_, ?_⟩
              focus (go_simp; exact rfl)
              simp only [List.getElem_toArray, List.getElem_cons_succ, List.getElem_cons_zero, Act.put, List.setIfInBounds_toArray, List.set_cons_zero, List.set_cons_succ]
              refine lexP_yieldE rfl rfl ?_
              apply Exists.intro
              refine ⟨fun W hW => ?_, ?_⟩
              focus (go_simp; exact rfl)
              simp only [List.getElem_toArray, List.getElem_cons_succ, List.getElem_cons_zero, Act.put, List.setIfInBounds_toArray, List.set_cons_zero, List.set_cons_succ]
              refine lexP_last rfl rfl ?_
              unfold Oper.wp
              go_simp
              have kc := (Only.setCell (S := fun k => k = r) W4 ⟨r, 0, none⟩ rfl (.slice a9 q9 cap9)).cell (b := wr.heap.size) (fun e => by have := HRX.out; omega) ((HBR.out.later HK4.out.below).cell 0 (by decide))
              simp only [if_true] at kc
              go_wp2_with (fail)
              go_ret2
              have hnn := HN.out
              rw [nextL_quiet (x := (n, false, false)) ⟨rfl, rfl⟩] at hnn
              unfold RfT
              rw [← hnn]
              exact ⟨rfl, _, TTurn.transC HTB.out HT.out⟩
          · refine lexP_step rfl rfl ?_
            unfold Oper.wp
            go_simp
            have HK1 := Lib.hid (show Kept wB.heap.size wB (W0.alloc (.cells #[.int .i64 (n : Int), .bool false, .bool false] 56)) from W0K.out.below.alloc W0K.out.below.size _)
            have HX1 := Lib.hid (elem_src W0 n false false 56)
            have HXL1 := Lib.hid (show W0.heap.size < (W0.alloc (.cells #[.int .i64 (n : Int), .bool false, .bool false] 56)).heap.size from by simp)
            have HXB1 := Lib.hid (show wB.heap.size ≤ W0.heap.size from W0K.out.below.size)
            refine ⟨HK1.out, ?_⟩
            clear W0K 
            generalize W0.alloc (.cells #[.int .i64 (n : Int), .bool false, .bool false] 56) = W1 at *
            generalize W0.heap.size = c1 at *
            refine lexP_step rfl rfl ?_
            unfold Oper.wp
            go_simp
            have HK2 := Lib.hid (show Kept wB.heap.size wB (W1.alloc (.cells #[] 56)) from HK1.out.below.alloc HK1.out.below.size _)
            have HO2 := Lib.hid (World.ownsRow_made W1 (e := 56) (base := W1.heap.size) (size := 3) #[] 0 (Nat.le_refl _) (Nat.zero_le _) (by simp))
            have HX2 := Lib.hid (fun q uu hq => ((Below.refl W1.heap.size W1).alloc (Nat.le_refl _) (.cells #[] 56)).cell (p := (⟨c1, 0, none⟩ : Addr).add q) (World.block_lt_of_cell? _ _ (HX1.out q uu hq)) |>.trans (HX1.out q uu hq))
            have HC2 := Lib.hid (fun q hq => (HO2.out.lt q hq).1)
            have HD2 := Lib.hid (show wB.heap.size ≤ W1.heap.size from HK1.out.below.size)
            have HO2 := Lib.hid (owns_base HO2.out (base' := wB.heap.size) (fun q hq => Nat.le_trans HD2.out (HC2.out q hq)))
            refine ⟨HK2.out, ?_⟩
            clear HK1
            generalize W1.alloc (.cells #[] 56) = W2 at *
            generalize W1.heap.size = b2 at *
            refine lexP_step rfl rfl ?_
            refine wp_append_src _ _ _ 27 rfl wB.heap.size 56 i0 _ 3 16 Try.underlying27 hi hz0 hz1 hz2 rfl (by decide) _ _ _ HO2.out HK2.out.below.size (some A1) T.length (cap - 1) (recV encF T) rfl rfl (recV_len encF_len T) (HSRC.out _ HK2.out) (recV_one encF_one T) (by have := HLN.out; omega) (by decide) ?_
            intro v3 W3 hown3 ho3 _
            have HO3 := Lib.hid (show W3.ownsRow wB.heap.size 56 3 v3 T.length (recV encF T) from by rw [Nat.zero_add, List.nil_append] at hown3; exact hown3)
            have HK3 := Lib.hid (show Kept wB.heap.size wB W3 from ho3.below HK2.out.below HK2.out.below.size (fun q hq => (HO2.out.lt q hq).1))
            have HX3 := Lib.hid (fun q uu hq => only_add ho3 (fun e => absurd (HC2.out _ e) (Nat.not_le.2 HXL1.out)) (HX2.out q uu hq))
            refine ⟨HK3.out, ?_⟩
            clear hown3 ho3 HK2 HO2 HX2
            simp only [List.getElem_toArray, List.getElem_cons_succ, List.getElem_cons_zero, Act.put, List.setIfInBounds_toArray, List.set_cons_zero, List.set_cons_succ]
            refine lexP_step rfl rfl ?_
            refine wp_append_src _ _ _ 27 rfl wB.heap.size 56 i0 _ 3 16 Try.underlying27 hi hz0 hz1 hz2 rfl (by decide) _ _ _ HO3.out HK3.out.below.size (some ⟨c1, 0, none⟩) 1 1 (encF (n, false, false)) rfl rfl rfl (fun _ => ⟨_, rfl, HX3.out⟩) (encF_one _) (by have := HLN.out; omega) (by decide) ?_
            intro v4 W4 hown4 ho4 _
            have HK4 := Lib.hid (show Kept wB.heap.size wB W4 from ho4.below HK3.out.below HK3.out.below.size (fun q hq => (HO3.out.lt q hq).1))
            have hown9 : W4.ownsRow wB.heap.size 56 3 v4 (T ++ [(n, false, false)]).length (recV encF (T ++ [(n, false, false)])) := by
              rw [List.length_append, recV_append, recV_single]
              exact hown4
            have HT := Lib.hid (HRB.out.set HK4.out.below hown9)
            have c9 := (HRB.out.later HK4.out.below).c0
            have f9 := (HRB.out.later HK4.out.below).fz
            obtain ⟨a9, cap9, hv9⟩ := owns_lenC hown9
            generalize (T ++ [(n, false, false)]).length = q9 at hv9
            subst hv9
            refine ⟨HK4.out, ?_⟩
            clear hown4 hown9 ho4 HK3 HO3
            simp only [List.getElem_toArray, List.getElem_cons_succ, List.getElem_cons_zero, Act.put, List.setIfInBounds_toArray, List.set_cons_zero, List.set_cons_succ]
            refine lexP_yieldE rfl rfl ?_
            apply Exists.intro
            refine ⟨fun W hW => ?_, ?_⟩
            focus (go_simp; exact rfl)
            simp only [List.getElem_toArray, List.getElem_cons_succ, List.getElem_cons_zero, Act.put, List.setIfInBounds_toArray, List.set_cons_zero, List.set_cons_succ]
            refine lexP_yieldE rfl rfl ?_
            apply Exists.intro
            refine ⟨fun W hW => ?_, ?_⟩
            focus (go_simp; exact rfl)
            simp only [List.getElem_toArray, List.getElem_cons_succ, List.getElem_cons_zero, Act.put, List.setIfInBounds_toArray, List.set_cons_zero, List.set_cons_succ]
            refine lexP_last rfl rfl ?_
            unfold Oper.wp
            go_simp
            have kc := (Only.setCell (S := fun k => k = r) W4 ⟨r, 0, none⟩ rfl (.slice a9 q9 cap9)).cell (b := wr.heap.size) (fun e => by have := HRX.out; omega) ((HBR.out.later HK4.out.below).cell 0 (by decide))
            simp only [if_true] at kc
            go_wp2_with (fail)
            go_ret2
            have hnn := HN.out
            rw [nextL_quiet (x := (n, false, false)) ⟨rfl, rfl⟩] at hnn
            unfold RfT
            rw [← hnn]
            exact ⟨rfl, _, TTurn.transC HTB.out HT.out⟩
end
end Go.Proofs.Ytndddfkebbeemaa
