/-
  depot's laws: the known case.
-/
import Derived.Test.YtagnipkannogoaaDpOk
import Derived.Test.YtagnipkannogoaaLexP
import Derived.Test.YtagnipkannogoaaLexH
namespace Go.Proofs.Ytagnipkannogoaa
open Go.RowKit Go
section
variable {P : Program} {ops : Array Oper} {Q : Exit → Act → World → Prop} {S : World → Prop} {K : Act → World → Prop} {i : Nat} {p : Plan} {a : Act} {w : World}
theorem lexP_call (f : FuncId) (args : Array Value) {o : Oper} (hi : ops[i]? = some o) (hw : Region.wanted o (yielded ops a.tmps) = true) (hr : (execOp a.eval o).run P w = .ok (.enter f args) w)
    (h : Calls P f args w fun e w' => ∃ v, e = .returned v ∧ S w' ∧ LexP P ops Q S K p (a.put o.dst v) w') : LexP P ops Q S K (.step i p .fin) a w := by
  refine lexP_step hi hw ?_
  unfold Oper.wp
  rw [hr]
  simp only [Oper.upon]
  refine h.mono ?_
  rintro e w' ⟨v, rfl, h1, h2⟩
  exact ⟨h1, h2⟩
theorem lexP_callor (f : FuncId) (args : Array Value) {o : Oper} {j : Nat} {q r : Plan} (hi : ops[i]? = some o) (hw : Region.wanted o (yielded ops a.tmps) = true) (hr : (execOp a.eval o).run P w = .ok (.enter f args) w)
    (h : Calls P f args w fun e w' => ∃ v, e = .returned v ∧ S w' ∧ LexP P ops Q S K p (a.put o.dst v) w') (h2 : LexP P ops Q S K (.step j q r) a w) : LexP P ops Q S K (.step i p (.step j q r)) a w := by
  refine lexP_or hi hw ?_ h2
  unfold Oper.wp
  rw [hr]
  simp only [Oper.upon]
  refine h.mono ?_
  rintro e w' ⟨v, rfl, h1, h2⟩
  exact ⟨h1, h2⟩
end
section
variable {IsD : Thg → Nat → Nat → List Obs → Obs → Prop} {w0 w : World} {d N : Nat} {F : List Obs} {Q : Obs} {l : List Rw}
theorem DK.box2 (h : DK IsD w0 d N F Q l w) (x y : Int) : DK IsD w0 d N F Q (rO (.slice (some ⟨w.heap.size, 0, none⟩) 1 1) [(x, y)] :: l) (w.alloc (.cells #[.int .i64 x, .int .i64 y] TO)) :=
  h.fresh ((Below.refl _ _).alloc (Nat.le_refl _) _) ⟨rfl, .inr ⟨w.heap.size, 1, #[.int .i64 x, .int .i64 y], rfl, Nat.zero_le _, heap_alloc_new w _, Nat.le_refl _, by unfold maxLen; omega, rfl, rfl⟩⟩ (fun k hk => by simp [rO, Value.ownBlock] at hk; omega)
theorem DK.box4 (h : DK IsD w0 d N F Q l w) (x y x2 y2 : Int) : DK IsD w0 d N F Q (rO (.slice (some ⟨w.heap.size, 0, none⟩) 2 2) [(x, y), (x2, y2)] :: l) (w.alloc (.cells #[.int .i64 x, .int .i64 y, .int .i64 x2, .int .i64 y2] TO)) :=
  h.fresh ((Below.refl _ _).alloc (Nat.le_refl _) _) ⟨rfl, .inr ⟨w.heap.size, 2, #[.int .i64 x, .int .i64 y, .int .i64 x2, .int .i64 y2], rfl, Nat.zero_le _, heap_alloc_new w _, Nat.le_refl _, by unfold maxLen; omega, rfl, rfl⟩⟩ (fun k hk => by simp [rO, Value.ownBlock] at hk; omega)
end
set_option maxRecDepth 100000 in
set_option maxHeartbeats 8000000 in
theorem known_any {IsD : Thg → Nat → Nat → List Obs → Obs → Prop} (ok : DepOk IsD) (w : World) : Calls Try.prog 8 #[] w fun e w' => e = .returned (.bool true) ∧ Below w.heap.size w w' := by
  have hba1 : Below w.heap.size w (w.alloc (.cells #[.int .i64 1, .int .i64 0] 38)) := (Below.refl _ _).alloc (Nat.le_refl _) _
  have hba2 := hba1.alloc hba1.size (.cells #[.int .i64 2, .int .i64 0] 38)
  have HBW := Lib.hid hba2
  have HA := Lib.hid ((obj_row w 1 0).alloc (.cells #[.int .i64 2, .int .i64 0] 38))
  have HB := Lib.hid (show RowAt _ (w.heap.size + 1) 2 (obV 2 0) from by
    have h := obj_row (w.alloc (.cells #[.int .i64 1, .int .i64 0] 38)) 2 0
    rw [show (w.alloc (.cells #[.int .i64 1, .int .i64 0] 38)).heap.size = w.heap.size + 1 by simp] at h
    exact h)
  clear hba1 hba2
  go_enter Try.func8, Try.ntmps8
  go_wp2_with (fail)
  generalize (w.alloc (.cells #[.int .i64 1, .int .i64 0] 38)).alloc (.cells #[.int .i64 2, .int .i64 0] 38) = w2 at *
  generalize hX1 : w.heap.size + 1 = X1 at *
  clear hX1
  generalize hX0 : w.heap.size = X0 at HA ⊢
  have HX0 := Lib.hid hX0
  clear hX0
  refine (new_dk ok 2 w2).mono ?_
  rintro e w3 ⟨d, rfl, hD⟩
  have HD3 := Lib.hid (show DK IsD w2 d 2 [] [] [] w3 from hD)
  have a0 : w3.cell? ⟨X0, 0, none⟩ = some (.int .i64 1) := (HA.out.later hD.bel).cell 0 (by decide)
  have a1 : w3.cell? ⟨X0, 1, none⟩ = some (.int .i64 0) := (HA.out.later hD.bel).cell 1 (by decide)
  have b0 : w3.cell? ⟨X1, 0, none⟩ = some (.int .i64 2) := (HB.out.later hD.bel).cell 0 (by decide)
  have b1 : w3.cell? ⟨X1, 1, none⟩ = some (.int .i64 0) := (HB.out.later hD.bel).cell 1 (by decide)
  have HD4 := Lib.hid (HD3.out.box4 1 0 2 0)
  clear hD HD3
  go_wp2_with (fail)
  generalize w3.alloc (.cells #[.int .i64 1, .int .i64 0, .int .i64 2, .int .i64 0] 38) = w4 at *
  clear a0 a1 b0 b1
  refine (put_dk ok HD4.out HD4.out.srcO).mono ?_
  rintro e w5 ⟨rfl, hD⟩
  have HD5 := Lib.hid (show DK IsD w2 d 2 [[(1, 0), (2, 0)]] [] [] w5 from hD.drop)
  rw [show (dpPut 2 [(1, 0), (2, 0)] []).1 = 0 from rfl]
  have a0 : w5.cell? ⟨X0, 0, none⟩ = some (.int .i64 1) := (HA.out.later hD.bel).cell 0 (by decide)
  have a1 : w5.cell? ⟨X0, 1, none⟩ = some (.int .i64 0) := (HA.out.later hD.bel).cell 1 (by decide)
  have b0 : w5.cell? ⟨X1, 0, none⟩ = some (.int .i64 2) := (HB.out.later hD.bel).cell 0 (by decide)
  have b1 : w5.cell? ⟨X1, 1, none⟩ = some (.int .i64 0) := (HB.out.later hD.bel).cell 1 (by decide)
  have HD6 := Lib.hid (HD5.out.box2 1 0)
  clear hD HD5 HD4
  go_wp2_with (fail)
  generalize w5.alloc (.cells #[.int .i64 1, .int .i64 0] 38) = w6 at *
  clear a0 a1 b0 b1
  refine (put_dk ok HD6.out HD6.out.srcO).mono ?_
  rintro e w7 ⟨rfl, hD⟩
  have HD7 := Lib.hid (show DK IsD w2 d 2 [[(1, 0), (2, 0)]] [] [] w7 from hD.drop)
  rw [show (dpPut 2 [(1, 0)] [[(1, 0), (2, 0)]]).1 = 2 from rfl]
  have a0 : w7.cell? ⟨X0, 0, none⟩ = some (.int .i64 1) := (HA.out.later hD.bel).cell 0 (by decide)
  have a1 : w7.cell? ⟨X0, 1, none⟩ = some (.int .i64 0) := (HA.out.later hD.bel).cell 1 (by decide)
  have b0 : w7.cell? ⟨X1, 0, none⟩ = some (.int .i64 2) := (HB.out.later hD.bel).cell 0 (by decide)
  have b1 : w7.cell? ⟨X1, 1, none⟩ = some (.int .i64 0) := (HB.out.later hD.bel).cell 1 (by decide)
  clear hD HD6
  go_wp2_with (fail)
  clear a0 a1 b0 b1
  refine (queue_dk ok HD7.out 2 0 (by decide)).mono ?_
  rintro e w8 ⟨rfl, hD⟩
  have HD8 := Lib.hid hD
  have a0 : w8.cell? ⟨X0, 0, none⟩ = some (.int .i64 1) := (HA.out.later hD.bel).cell 0 (by decide)
  have a1 : w8.cell? ⟨X0, 1, none⟩ = some (.int .i64 0) := (HA.out.later hD.bel).cell 1 (by decide)
  have b0 : w8.cell? ⟨X1, 0, none⟩ = some (.int .i64 2) := (HB.out.later hD.bel).cell 0 (by decide)
  have b1 : w8.cell? ⟨X1, 1, none⟩ = some (.int .i64 0) := (HB.out.later hD.bel).cell 1 (by decide)
  clear hD HD7
  go_wp2_with (fail)
  clear a0 a1 b0 b1
  refine (queue_dk ok HD8.out 1 0 (by decide)).mono ?_
  rintro e w9 ⟨rfl, hD⟩
  have HD9 := Lib.hid (show DK IsD w2 d 2 [[(1, 0), (2, 0)]] [(2, 0), (1, 0)] [] w9 from hD)
  clear hD HD8
  go_wp2_with (fail)
  refine (get_dk ok HD9.out).mono ?_
  rintro e u0 ⟨v0, rfl, hD⟩
  have HDa := Lib.hid (show DK IsD w2 d 2 [] [(2, 0), (1, 0)] [rO v0 [(1, 0), (2, 0)]] u0 from hD)
  rw [show (dpGet [[(1, 0), (2, 0)]]).1 = true from rfl]
  clear hD HD9
  have L1 := Lib.hid (show ∀ V, Below w2.heap.size w2 V → (loadVar 38 ⟨X0, 0, none⟩).run Try.prog V = .ok (.agg #[.int .i64 1, .int .i64 0]) V from fun V hV => load_obj ((HA.out.later hV).cell 0 (by decide)) ((HA.out.later hV).cell 1 (by decide)))
  have L2 := Lib.hid (show ∀ V, Below w2.heap.size w2 V → (loadVar 38 ⟨X1, 0, none⟩).run Try.prog V = .ok (.agg #[.int .i64 2, .int .i64 0]) V from fun V hV => load_obj ((HB.out.later hV).cell 0 (by decide)) ((HB.out.later hV).cell 1 (by decide)))
  go_wp2_with (fail)
  refine wp_region_plan (Below w2.heap.size w2) (.take 0 (.take 1 (.take 2 (.take 3 (.take 4 (.step 5 (.step 6 (.take 7 (.take 8 (.take 9 (.take 11 (.step 10 (.step 12 (.step 13 (.take 14 (.take 15 (.take 16 (.step 17 (.take 18 (.take 19 (.take 20 (.take 21 (.step 22 (.take 23 (.take 24 .fin)) .fin))))) .fin)))) .fin) .fin) (.step 12 (.step 10 (.step 13 (.take 14 (.take 15 (.take 16 (.step 17 (.take 18 (.take 19 (.take 20 (.take 21 (.step 22 (.take 23 (.take 24 .fin)) .fin))))) .fin)))) .fin) .fin) .fin)))))) .fin) .fin)))))) 25 (by kernel_rfl) (by kernel_rfl) (by kernel_rfl) (HDa.out.bel.drew) ?_
  intro W0 hW0 hK0
  have HDb := Lib.hid (show DK IsD w2 d 2 [] [(2, 0), (1, 0)] [rO v0 [(1, 0), (2, 0)]] W0 by rw [hW0]; exact HDa.out.later (Below.refl _ _).drew)
  clear hW0 hK0 HDa
  refine lexP_yieldE rfl rfl ?_
  apply Exists.intro
  refine ⟨fun W hW => ?_, ?_⟩
  focus (go_simp; exact rfl)
  simp only [List.getElem_toArray, List.getElem_cons_zero, Act.put, List.setIfInBounds_toArray, List.set_cons_zero, List.set_cons_succ]
  refine lexP_yieldE rfl rfl ?_
  apply Exists.intro
  refine ⟨fun W hW => ?_, ?_⟩
  focus (go_simp; exact rfl)
  simp only [List.getElem_toArray, List.getElem_cons_succ, List.getElem_cons_zero, Act.put, List.setIfInBounds_toArray, List.set_cons_zero, List.set_cons_succ]
  refine lexP_yieldE rfl rfl ?_
  apply Exists.intro
  refine ⟨fun W hW => ?_, ?_⟩
  focus (go_simp; exact rfl)
  simp only [List.getElem_toArray, List.getElem_cons_succ, List.getElem_cons_zero, Act.put, List.setIfInBounds_toArray, List.set_cons_zero, List.set_cons_succ]
  refine lexP_load rfl rfl _ _ rfl rfl L1.out ?_
  simp only [List.getElem_toArray, List.getElem_cons_succ, List.getElem_cons_zero, Act.put, List.setIfInBounds_toArray, List.set_cons_zero, List.set_cons_succ]
  refine lexP_load rfl rfl _ _ rfl rfl L2.out ?_
  simp only [List.getElem_toArray, List.getElem_cons_succ, List.getElem_cons_zero, Act.put, List.setIfInBounds_toArray, List.set_cons_zero, List.set_cons_succ]
  refine lexP_step rfl rfl ?_
  unfold Oper.wp
  go_simp
  have HDc := Lib.hid (HDb.out.box4 1 0 2 0)
  refine ⟨HDc.out.bel, ?_⟩
  clear HDb
  generalize W0.alloc (.cells #[.int .i64 1, .int .i64 0, .int .i64 2, .int .i64 0] 38) = u1 at *
  generalize W0.heap.size = sa at *
  refine lexP_call 22 #[v0, .slice (some ⟨sa, 0, none⟩) 2 2] rfl rfl ?_ ?_
  focus (go_simp; done)
  refine (same_any HDc.out.swap.srcO HDc.out.srcO (by decide)).mono ?_
  rintro e u2 ⟨rfl, hb⟩
  have HDs := Lib.hid (HDc.out.later hb)
  refine ⟨_, rfl, HDs.out.bel, ?_⟩
  clear hb HDc
  simp only [List.getElem_toArray, List.getElem_cons_succ, List.getElem_cons_zero, Act.put, List.setIfInBounds_toArray, List.set_cons_zero, List.set_cons_succ]
  refine lexP_yieldE rfl rfl ?_
  apply Exists.intro
  refine ⟨fun W hW => ?_, ?_⟩
  focus (go_simp; exact rfl)
  simp only [List.getElem_toArray, List.getElem_cons_succ, List.getElem_cons_zero, Act.put, List.setIfInBounds_toArray, List.set_cons_zero, List.set_cons_succ]
  refine lexP_yieldE rfl rfl ?_
  apply Exists.intro
  refine ⟨fun W hW => ?_, ?_⟩
  focus (go_simp; exact rfl)
  simp only [List.getElem_toArray, List.getElem_cons_succ, List.getElem_cons_zero, Act.put, List.setIfInBounds_toArray, List.set_cons_zero, List.set_cons_succ]
  refine lexP_yieldE rfl rfl ?_
  apply Exists.intro
  refine ⟨fun W hW => ?_, ?_⟩
  focus (go_simp; exact rfl)
  simp only [List.getElem_toArray, List.getElem_cons_succ, List.getElem_cons_zero, Act.put, List.setIfInBounds_toArray, List.set_cons_zero, List.set_cons_succ]
  refine lexP_load rfl rfl _ _ rfl rfl L2.out ?_
  simp only [List.getElem_toArray, List.getElem_cons_succ, List.getElem_cons_zero, Act.put, List.setIfInBounds_toArray, List.set_cons_zero, List.set_cons_succ]
  refine lexP_callor 17 #[.pointer (some ⟨d, 0, none⟩), .int .i64 1] rfl rfl ?_ ?_ ?_
  focus (go_simp; done)
  · refine (drain_dk ok HDs.out 1 (by decide)).mono ?_
    rintro e x1 ⟨v1, rfl, hx1⟩
    have hx2 : DK IsD w2 d 2 [] [(1, 0)] (rO v1 [(2, 0)] :: [rO (.slice (some ⟨sa, 0, none⟩) 2 2) [(1, 0), (2, 0)], rO v0 [(1, 0), (2, 0)]]) x1 := hx1
    have HX1 := Lib.hid hx2
    refine ⟨_, rfl, hx2.bel, ?_⟩
    clear hx1 hx2 HDs
    simp only [List.getElem_toArray, List.getElem_cons_succ, List.getElem_cons_zero, Act.put, List.setIfInBounds_toArray, List.set_cons_zero, List.set_cons_succ]
    refine lexP_step rfl rfl ?_
    unfold Oper.wp
    go_simp
    have HX2 := Lib.hid (HX1.out.box2 2 0)
    refine ⟨HX2.out.bel, ?_⟩
    clear HX1
    generalize x1.alloc (.cells #[.int .i64 2, .int .i64 0] 38) = x3 at *
    generalize x1.heap.size = sb at *
    refine lexP_call 22 #[v1, .slice (some ⟨sb, 0, none⟩) 1 1] rfl rfl ?_ ?_
    focus (go_simp; done)
    refine (same_any HX2.out.swap.srcO HX2.out.srcO (by decide)).mono ?_
    rintro e x4 ⟨rfl, hb⟩
    have HX4 := Lib.hid (HX2.out.later hb)
    refine ⟨_, rfl, HX4.out.bel, ?_⟩
    clear hb HX2
    simp only [List.getElem_toArray, List.getElem_cons_succ, List.getElem_cons_zero, Act.put, List.setIfInBounds_toArray, List.set_cons_zero, List.set_cons_succ]
    refine lexP_yieldE rfl rfl ?_
    apply Exists.intro
    refine ⟨fun W hW => ?_, ?_⟩
    focus (go_simp; exact rfl)
    simp only [List.getElem_toArray, List.getElem_cons_succ, List.getElem_cons_zero, Act.put, List.setIfInBounds_toArray, List.set_cons_zero, List.set_cons_succ]
    refine lexP_yieldE rfl rfl ?_
    apply Exists.intro
    refine ⟨fun W hW => ?_, ?_⟩
    focus (go_simp; exact rfl)
    simp only [List.getElem_toArray, List.getElem_cons_succ, List.getElem_cons_zero, Act.put, List.setIfInBounds_toArray, List.set_cons_zero, List.set_cons_succ]
    refine lexP_yieldE rfl rfl ?_
    apply Exists.intro
    refine ⟨fun W hW => ?_, ?_⟩
    focus (go_simp; exact rfl)
    simp only [List.getElem_toArray, List.getElem_cons_succ, List.getElem_cons_zero, Act.put, List.setIfInBounds_toArray, List.set_cons_zero, List.set_cons_succ]
    refine lexP_call 24 #[.pointer (some ⟨d, 0, none⟩)] rfl rfl ?_ ?_
    focus (go_simp; done)
    refine (queued_dk ok HX4.out).mono ?_
    rintro e y1 ⟨rfl, hy1⟩
    have HY1 := Lib.hid hy1
    refine ⟨_, rfl, hy1.bel, ?_⟩
    clear hy1 HX4
    simp only [List.getElem_toArray, List.getElem_cons_succ, List.getElem_cons_zero, Act.put, List.setIfInBounds_toArray, List.set_cons_zero, List.set_cons_succ]
    refine lexP_yieldE rfl rfl ?_
    apply Exists.intro
    refine ⟨fun W hW => ?_, ?_⟩
    focus (go_simp; exact rfl)
    simp only [List.getElem_toArray, List.getElem_cons_succ, List.getElem_cons_zero, Act.put, List.setIfInBounds_toArray, List.set_cons_zero, List.set_cons_succ]
    refine lexP_yieldE rfl rfl ?_
    apply Exists.intro
    refine ⟨fun W hW => ?_, ?_⟩
    focus (go_simp; exact rfl)
    simp only [List.getElem_toArray, List.getElem_cons_succ, List.getElem_cons_zero, Act.put, List.setIfInBounds_toArray, List.set_cons_zero, List.set_cons_succ]
    refine lexP_yieldE rfl rfl ?_
    apply Exists.intro
    refine ⟨fun W hW => ?_, ?_⟩
    focus (go_simp; exact rfl)
    simp only [List.getElem_toArray, List.getElem_cons_succ, List.getElem_cons_zero, Act.put, List.setIfInBounds_toArray, List.set_cons_zero, List.set_cons_succ]
    refine lexP_yieldE rfl rfl ?_
    apply Exists.intro
    refine ⟨fun W hW => ?_, ?_⟩
    focus (go_simp; exact rfl)
    simp only [List.getElem_toArray, List.getElem_cons_succ, List.getElem_cons_zero, Act.put, List.setIfInBounds_toArray, List.set_cons_zero, List.set_cons_succ]
    refine lexP_call 23 #[.pointer (some ⟨d, 0, none⟩)] rfl rfl ?_ ?_
    focus (go_simp; done)
    refine (fulls_dk ok HY1.out).mono ?_
    rintro e y2 ⟨rfl, hy2⟩
    have HY2 := Lib.hid (HBW.out.trans (hy2.bel.mono HBW.out.size))
    refine ⟨_, rfl, hy2.bel, ?_⟩
    clear hy2 HY1
    simp only [List.getElem_toArray, List.getElem_cons_succ, List.getElem_cons_zero, Act.put, List.setIfInBounds_toArray, List.set_cons_zero, List.set_cons_succ]
    refine lexP_yieldE rfl rfl ?_
    apply Exists.intro
    refine ⟨fun W hW => ?_, ?_⟩
    focus (go_simp; exact rfl)
    simp only [List.getElem_toArray, List.getElem_cons_succ, List.getElem_cons_zero, Act.put, List.setIfInBounds_toArray, List.set_cons_zero, List.set_cons_succ]
    refine lexP_yieldE rfl rfl ?_
    apply Exists.intro
    refine ⟨fun W hW => ?_, ?_⟩
    focus (go_simp; exact rfl)
    simp only [List.getElem_toArray, List.getElem_cons_succ, List.getElem_cons_zero, Act.put, List.setIfInBounds_toArray, List.set_cons_zero, List.set_cons_succ]
    refine lexP_last rfl rfl ?_
    unfold Oper.wp
    go_simp
    go_wp2_with (fail)
    go_ret
    exact ⟨rfl, HY2.out⟩
  · refine lexP_step rfl rfl ?_
    unfold Oper.wp
    go_simp
    have HX2 := Lib.hid (HDs.out.box2 2 0)
    refine ⟨HX2.out.bel, ?_⟩
    clear HDs
    generalize u2.alloc (.cells #[.int .i64 2, .int .i64 0] 38) = x3 at *
    generalize u2.heap.size = sb at *
    refine lexP_call 17 #[.pointer (some ⟨d, 0, none⟩), .int .i64 1] rfl rfl ?_ ?_
    focus (go_simp; done)
    refine (drain_dk ok HX2.out 1 (by decide)).mono ?_
    rintro e x1 ⟨v1, rfl, hx1⟩
    have hx2 : DK IsD w2 d 2 [] [(1, 0)] (rO v1 [(2, 0)] :: rO (.slice (some ⟨sb, 0, none⟩) 1 1) [(2, 0)] :: [rO (.slice (some ⟨sa, 0, none⟩) 2 2) [(1, 0), (2, 0)], rO v0 [(1, 0), (2, 0)]]) x1 := hx1
    have HX1 := Lib.hid hx2
    refine ⟨_, rfl, hx2.bel, ?_⟩
    clear hx1 hx2 HX2
    simp only [List.getElem_toArray, List.getElem_cons_succ, List.getElem_cons_zero, Act.put, List.setIfInBounds_toArray, List.set_cons_zero, List.set_cons_succ]
    refine lexP_call 22 #[v1, .slice (some ⟨sb, 0, none⟩) 1 1] rfl rfl ?_ ?_
    focus (go_simp; done)
    refine (same_any HX1.out.srcO HX1.out.swap.srcO (by decide)).mono ?_
    rintro e x4 ⟨rfl, hb⟩
    have HX4 := Lib.hid (HX1.out.later hb)
    refine ⟨_, rfl, HX4.out.bel, ?_⟩
    clear hb HX1
    simp only [List.getElem_toArray, List.getElem_cons_succ, List.getElem_cons_zero, Act.put, List.setIfInBounds_toArray, List.set_cons_zero, List.set_cons_succ]
    refine lexP_yieldE rfl rfl ?_
    apply Exists.intro
    refine ⟨fun W hW => ?_, ?_⟩
    focus (go_simp; exact rfl)
    simp only [List.getElem_toArray, List.getElem_cons_succ, List.getElem_cons_zero, Act.put, List.setIfInBounds_toArray, List.set_cons_zero, List.set_cons_succ]
    refine lexP_yieldE rfl rfl ?_
    apply Exists.intro
    refine ⟨fun W hW => ?_, ?_⟩
    focus (go_simp; exact rfl)
    simp only [List.getElem_toArray, List.getElem_cons_succ, List.getElem_cons_zero, Act.put, List.setIfInBounds_toArray, List.set_cons_zero, List.set_cons_succ]
    refine lexP_yieldE rfl rfl ?_
    apply Exists.intro
    refine ⟨fun W hW => ?_, ?_⟩
    focus (go_simp; exact rfl)
    simp only [List.getElem_toArray, List.getElem_cons_succ, List.getElem_cons_zero, Act.put, List.setIfInBounds_toArray, List.set_cons_zero, List.set_cons_succ]
    refine lexP_call 24 #[.pointer (some ⟨d, 0, none⟩)] rfl rfl ?_ ?_
    focus (go_simp; done)
    refine (queued_dk ok HX4.out).mono ?_
    rintro e y1 ⟨rfl, hy1⟩
    have HY1 := Lib.hid hy1
    refine ⟨_, rfl, hy1.bel, ?_⟩
    clear hy1 HX4
    simp only [List.getElem_toArray, List.getElem_cons_succ, List.getElem_cons_zero, Act.put, List.setIfInBounds_toArray, List.set_cons_zero, List.set_cons_succ]
    refine lexP_yieldE rfl rfl ?_
    apply Exists.intro
    refine ⟨fun W hW => ?_, ?_⟩
    focus (go_simp; exact rfl)
    simp only [List.getElem_toArray, List.getElem_cons_succ, List.getElem_cons_zero, Act.put, List.setIfInBounds_toArray, List.set_cons_zero, List.set_cons_succ]
    refine lexP_yieldE rfl rfl ?_
    apply Exists.intro
    refine ⟨fun W hW => ?_, ?_⟩
    focus (go_simp; exact rfl)
    simp only [List.getElem_toArray, List.getElem_cons_succ, List.getElem_cons_zero, Act.put, List.setIfInBounds_toArray, List.set_cons_zero, List.set_cons_succ]
    refine lexP_yieldE rfl rfl ?_
    apply Exists.intro
    refine ⟨fun W hW => ?_, ?_⟩
    focus (go_simp; exact rfl)
    simp only [List.getElem_toArray, List.getElem_cons_succ, List.getElem_cons_zero, Act.put, List.setIfInBounds_toArray, List.set_cons_zero, List.set_cons_succ]
    refine lexP_yieldE rfl rfl ?_
    apply Exists.intro
    refine ⟨fun W hW => ?_, ?_⟩
    focus (go_simp; exact rfl)
    simp only [List.getElem_toArray, List.getElem_cons_succ, List.getElem_cons_zero, Act.put, List.setIfInBounds_toArray, List.set_cons_zero, List.set_cons_succ]
    refine lexP_call 23 #[.pointer (some ⟨d, 0, none⟩)] rfl rfl ?_ ?_
    focus (go_simp; done)
    refine (fulls_dk ok HY1.out).mono ?_
    rintro e y2 ⟨rfl, hy2⟩
    have HY2 := Lib.hid (HBW.out.trans (hy2.bel.mono HBW.out.size))
    refine ⟨_, rfl, hy2.bel, ?_⟩
    clear hy2 HY1
    simp only [List.getElem_toArray, List.getElem_cons_succ, List.getElem_cons_zero, Act.put, List.setIfInBounds_toArray, List.set_cons_zero, List.set_cons_succ]
    refine lexP_yieldE rfl rfl ?_
    apply Exists.intro
    refine ⟨fun W hW => ?_, ?_⟩
    focus (go_simp; exact rfl)
    simp only [List.getElem_toArray, List.getElem_cons_succ, List.getElem_cons_zero, Act.put, List.setIfInBounds_toArray, List.set_cons_zero, List.set_cons_succ]
    refine lexP_yieldE rfl rfl ?_
    apply Exists.intro
    refine ⟨fun W hW => ?_, ?_⟩
    focus (go_simp; exact rfl)
    simp only [List.getElem_toArray, List.getElem_cons_succ, List.getElem_cons_zero, Act.put, List.setIfInBounds_toArray, List.set_cons_zero, List.set_cons_succ]
    refine lexP_last rfl rfl ?_
    unfold Oper.wp
    go_simp
    go_wp2_with (fail)
    go_ret
    exact ⟨rfl, HY2.out⟩
end Go.Proofs.Ytagnipkannogoaa
