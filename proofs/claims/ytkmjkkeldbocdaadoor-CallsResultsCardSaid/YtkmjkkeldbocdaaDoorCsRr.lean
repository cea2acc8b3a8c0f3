/-
  calls, the document's: bytes read as a result.
-/
import Derived.Test.YtkmjkkeldbocdaaDoorCsRb
import Derived.Test.YtkmjkkeldbocdaaDoorLexP
namespace Go.Proofs.YtkmjkkeldbocdaaDoor
open Go.RowKit Go
attribute [local go_sem] Oper.semAt_some

theorem wp_goCall {P : Program} {Q : Exit → Act → World → Prop} {K : Act → World → Prop} {a : Act} {w : World} {o : Oper} (f : FuncId) (args : Array Value) (hr : (execOp a.eval o).run P w = .ok (.enter f args) w)
    (h : Calls P f args w fun e w' => ∃ v, e = .returned v ∧ K (a.put o.dst v) w') : o.wp P a w K Q := by
  unfold Oper.wp
  rw [hr]
  simp only [Oper.upon]
  refine h.mono ?_
  rintro e w' ⟨v, rfl, h⟩
  exact h
theorem wp_monoR {P : Program} {c : Code} {Q : Exit → Act → World → Prop} {a : Act} {w : World} (R : Act → Exit → Act → World → Prop) (h : c.wp P (R a) a w) (hq : ∀ e x w, R a e x w → Q e x w) : c.wp P Q a w := wp_mono h hq
/-- From the byte k on. -/
def shX (x : Nat → UInt8) (k : Nat) (j : Nat) : UInt8 := x (k + j)
theorem Src.from {w : World} {g o n : Nat} {x : Nat → UInt8} (S : Src w (some ⟨g, o, none⟩) n x) (k : Nat) : Src w (some ⟨g, o + k, none⟩) (n - k) (shX x k) := fun h => by
  obtain ⟨ad, e, hc⟩ := S (by omega)
  injection e with e
  subst e
  refine ⟨_, rfl, fun j hj => ?_⟩
  have h5 := hc (k + j) (by omega)
  rw [Addr.add_lit] at h5 ⊢
  rw [show o + k + j = o + (k + j) by omega]
  exact h5
theorem lexP_sl {P : Program} {ops : Array Oper} {Q : Exit → Act → World → Prop} {S : World → Prop} {K : Act → World → Prop} {i : Nat} {p : Plan} {a : Act} {w : World} {o : Oper} {v : Value} (hi : ops[i]? = some o) (hw : Region.wanted o (yielded ops a.tmps) = true) (t : TypeId) (x : Operand) (lo hh mx : Option Operand) (ho : o.op = .slice t x lo hh mx)
    (hv : ∀ W, S W → (Instr.sliceAt t (a.eval x) (lo.map a.eval) (hh.map a.eval) (mx.map a.eval)).run P W = .ok v W) (h : LexP P ops Q S K p (a.put o.dst v) w) : LexP P ops Q S K (.take i p) a w :=
  lexP_yield hi hw (fun W hW => by unfold execOp; simp only [ho, Sem.run_bind, Sem.run_pure, Result.andThen_ok, hv W hW]) h
theorem Src.tail {w : World} {g o n c : Nat} {x : Nat → UInt8} (S : Src w (some ⟨g, o, none⟩) n x) (hnc : n ≤ c) : Src w (some (if c = 24 then (⟨g, o, none⟩ : Addr) else ⟨g, o + 24 * 1, none⟩)) (n - 24) (shX x 24) := by
  by_cases h : c = 24
  · intro h0; omega
  · rw [if_neg h]
    exact S.from 24
theorem numX_lt (x : Nat → UInt8) (n p : Nat) : numX x n p < 18446744073709551616 := by
  have h : numX x n p < 256 ^ 8 := numT_lt (fun i => numF_lt x n p i) 8
  have h2 : (256 : Nat) ^ 8 = 18446744073709551616 := by decide
  omega
theorem sizeB (w : World) : (sizeOf 5).run Tryd.prog w = .ok 1 w := by kernel_rfl
theorem src_byt {base : Nat} {y : Nat → UInt8} {m c : Nat} {a : Option Addr} {W : World} (h : BytAt base (lisX y m) (.slice a m c) W) : Src W a m y := by
  obtain ⟨a2, c2, e, hc⟩ := h.there
  rw [lisX_len] at e hc
  injection e with e1 e2 e3
  subst e1
  intro h0
  obtain ⟨ad, e4, hq⟩ := hc h0
  refine ⟨ad, e4, fun j hj => ?_⟩
  refine hq j _ ?_
  rw [bvs_lisX]
  exact bytL_at hj
/-- Bytes as a string. -/
def strL (L : List UInt8) : ByteArray := strB L.length (fun i => L.getD i 0)
theorem lisX_self (L : List UInt8) : lisX (fun i => L.getD i 0) L.length = L := by
  refine List.ext_getElem? fun i => ?_
  unfold lisX
  by_cases h : i < L.length
  · rw [List.getElem?_map, List.getElem?_range h, List.getElem?_eq_getElem h]
    simp [List.getD, h]
  · rw [List.getElem?_eq_none (by simp; omega), List.getElem?_eq_none (by omega)]
theorem str_byt {base : Nat} {L : List UInt8} {v : Value} {W : World} (h : BytAt base L v W) : (convert 27 9 v).run Tryd.prog W = .ok (.string (strL L)) W := by
  obtain ⟨a, c, e, _⟩ := h.there
  subst e
  have h2 : BytAt base (lisX (fun i => L.getD i 0) L.length) (.slice a L.length c) W := by rw [lisX_self]; exact h
  exact run_string_src (src_byt h2)
theorem sizeRes : (Tryd.prog.info? 41).map (·.size) = some 3 := by kernel_rfl
theorem load_res {W : World} {b : Nat} {e : Int} {v : Nat} {a : Option Addr} {m c : Nat} (R : RowAt W b 3 (fun i => (rsA e v a m c).getD i undef)) : (loadVar 41 ⟨b, 0, none⟩).run Tryd.prog W = .ok (.agg (rsA e v a m c)) W :=
  run_loadVar_mid (P := Tryd.prog) W b 0 41 [.int .i64 e, .int .u64 (v : Int), .slice a m c] _ (fun j u hj => by
    rw [Nat.zero_add]
    match j, hj with
    | 0, hj => simp at hj; subst hj; exact R.cell 0 (by decide)
    | 1, hj => simp at hj; subst hj; exact R.cell 1 (by decide)
    | 2, hj => simp at hj; subst hj; exact R.cell 2 (by decide)) Tryd.underlying41 rfl sizeRes
/-- Whether it is a result's form. -/
def okX (x : Nat → UInt8) (n : Nat) : Bool := decide (numX x n 0 ≤ 999) && (decide (24 ≤ n) && (mayRs (numX x n 0 : Int) (numX x n 8) (n - 24) && ((strL (resL (numX x n 0) (numX x n 8) (shX x 24) (n - 24))).toList == (strB n x).toList)))
def RrP (w : World) (n : Nat) (x : Nat → UInt8) (e : Ending) (w' : World) : Prop :=
  (okX x n = true ∧ ∃ a c, e = .returned (.tuple #[rsV (numX x n 0 : Int) (numX x n 8) a (n - 24) c, .int .i64 0]) ∧ Src w' a (n - 24) (shX x 24) ∧ Below w.heap.size w w') ∨ (okX x n = false ∧ e = .returned (.tuple #[rsV 0 0 none 0 0, .int .i64 5]) ∧ Below w.heap.size w w')
/-- What region 4 leaves. -/
def RrR (w : World) (rb n e0 v8 : Nat) (y : Nat → UInt8) (a0 : Act) : Exit → Act → World → Prop
  | .normal, x, W => ∃ u14 u15 u16 u17 u18 u19 u20 u21 u22 a8 c8, x = ((((((((((a0.put (some 14) u14).put (some 15) u15).put (some 16) u16).put (some 17) u17).put (some 18) u18).put (some 19) u19).put (some 20) u20).put (some 21) u21).put (some 22) u22).put (some 23) (.agg (rsA (e0 : Int) v8 a8 (n - 24) c8)))
      ∧ RowAt W rb 3 (fun i => (rsA (e0 : Int) v8 a8 (n - 24) c8).getD i undef) ∧ RowAt W w.heap.size 3 (fun i => (rsA 0 0 none 0 0).getD i undef) ∧ BytAt (rb + 1) (lisX y (n - 24)) (.slice a8 (n - 24) c8) W ∧ Below w.heap.size w W
  | _, _, _ => False
set_option maxRecDepth 100000 in
set_option maxHeartbeats 8000000 in
theorem rread_ok (g o n c : Nat) (x : Nat → UInt8) (hn : n ≤ 2100) (w : World) (S : Src w (some ⟨g, o, none⟩) n x) (hnc : n ≤ c) (hc : c ≤ maxLen) : Calls Tryd.prog 21 #[.slice (some ⟨g, o, none⟩) n c] w (RrP w n x) := by
  obtain ⟨i0, hi, hz0, hz1, hz2⟩ := info_parts infoByte
  have HN0 := Lib.hid (fun W (h : Src W (some ⟨g, o, none⟩) n x) => number_any (c := c) h (show n ≤ 100000 by omega) 0 (by decide))
  have HN8 := Lib.hid (fun W (h : Src W (some ⟨g, o, none⟩) n x) => number_any (c := c) h (show n ≤ 100000 by omega) 8 (by decide))
  have HS := Lib.hid S
  obtain ⟨w2, hw2⟩ : ∃ w2, w2 = (w.alloc (.cells #[.int .i64 0, .int .u64 0, .slice none 0 0] 41)).alloc (.cells #[.int .i64 0, .int .u64 0, .slice none 0 0] 41) := ⟨_, rfl⟩
  have HB2 := Lib.hid (show Below w.heap.size w w2 from by rw [hw2]; exact ((Below.refl _ _).alloc (Nat.le_refl _) _).alloc (by simp) _)
  have HS2 := Lib.hid (HS.out.later HB2.out)
  have hnI : (n : Int) ≤ 2100 := by omega
  have HR2 := Lib.hid (show RowAt w2 (w.heap.size + 1) 3 (fun i => (rsA 0 0 none 0 0).getD i undef) from by
    rw [hw2]
    have h5 := RowAt.new (w.alloc (.cells #[.int .i64 0, .int .u64 0, .slice none 0 0] 41)) #[.int .i64 0, .int .u64 0, .slice none 0 0] 41 3 (fun i => (rsA 0 0 none 0 0).getD i undef) (fun i hi => by
      match i, hi with
      | 0, _ | 1, _ | 2, _ => rfl)
    rw [World.size_alloc] at h5
    exact h5)
  have HR0 := Lib.hid (show RowAt w2 w.heap.size 3 (fun i => (rsA 0 0 none 0 0).getD i undef) from by
    rw [hw2]
    exact (RowAt.new w #[.int .i64 0, .int .u64 0, .slice none 0 0] 41 3 (fun i => (rsA 0 0 none 0 0).getD i undef) (fun i hi => by
      match i, hi with
      | 0, _ | 1, _ | 2, _ => rfl)).alloc _)
  have HC := Lib.hid hc
  clear S hc
  by_cases h9 : numX x n 0 ≤ 999
  · by_cases h24 : 24 ≤ n
    · have h9I : ¬ (999 : Int) < (numX x n 0 : Nat) := by omega
      have h24I : ¬ (n : Int) < 24 := by omega
      have S21 := Lib.hid (show ∀ W, Kept w2.heap.size w2 W → (Instr.sliceAt 27 (.slice (some ⟨g, o, none⟩) n c) (some (.int .i64 24)) none none).run Tryd.prog W = .ok (.slice (some (if c = 24 then ⟨g, o, none⟩ else ⟨g, o + 24 * 1, none⟩)) (n - 24) (c - 24)) W from
        fun W _ => run_sub_from Tryd.underlying27 sizeB g o n c 24 h24 W)
      go_enter Tryd.func21, Tryd.ntmps21
      go_wp2_with (fail)
      rw [← hw2]
      refine (HN0.out _ HS2.out).mono ?_
      rintro e w' ⟨rfl, rfl⟩
      clear hw2
      go_wp2_with (fail)
      have hc16 : IntKind.i64.wrap ((numX x n 0 : Nat) : Int) = (numX x n 0 : Nat) := by rw [IntKind.wrap_i64] <;> omega
      generalize hN0 : numX x n 0 = e0 at *
      generalize hN8 : numX x n 8 = v8 at *
      refine wp_monoR (RrR w (w.heap.size + 1) n e0 v8 (shX x 24)) ?_ ?_
      · refine wp_region_plan (Kept w2.heap.size w2) (.take 0 (.take 3 (.take 6 (.take 7 (.step 1 (.take 2 (.step 4 (.step 5 (.step 8 (.take 9 .fin) .fin) .fin) (.step 5 (.step 4 (.step 8 (.take 9 .fin) .fin) .fin) .fin))) (.step 5 (.step 1 (.take 2 (.step 4 (.step 8 (.take 9 .fin) .fin) .fin)) .fin) .fin)))))) 10 (by kernel_rfl) (by kernel_rfl) (by kernel_rfl) (Below.refl _ w2).drew ?_
        intro W0 hW0 hK0
        have HK0 := Lib.hid (show Below w2.heap.size w2 W0 from hK0)
        clear hW0 hK0
        refine lexP_yieldE rfl rfl ?_
        apply Exists.intro
        refine ⟨fun W hW => ?_, ?_⟩
        focus (go_simp; exact rfl)
        simp only [List.getElem_toArray, List.getElem_cons_zero, Act.put, List.setIfInBounds_toArray, List.set_cons_zero, List.set_cons_succ]
        refine lexP_yieldE rfl rfl ?_
        apply Exists.intro
        refine ⟨fun W hW => ?_, ?_⟩
        focus (go_simp; exact rfl)
        simp only [List.getElem_toArray, List.getElem_cons_succ, List.getElem_cons_zero, Act.put, List.setIfInBounds_toArray, List.set_cons_zero, List.set_cons_succ]
        refine lexP_yieldE rfl rfl ?_
        apply Exists.intro
        refine ⟨fun W hW => ?_, ?_⟩
        focus (go_simp; exact rfl)
        simp only [List.getElem_toArray, List.getElem_cons_succ, List.getElem_cons_zero, Act.put, List.setIfInBounds_toArray, List.set_cons_zero, List.set_cons_succ]
        refine lexP_sl rfl rfl _ _ _ _ _ rfl S21.out ?_
        simp only [List.getElem_toArray, List.getElem_cons_succ, List.getElem_cons_zero, Act.put, List.setIfInBounds_toArray, List.set_cons_zero, List.set_cons_succ]
        refine lexP_or rfl rfl ?_ ?_
        · skip
          refine wp_goCall 45 #[.slice (some ⟨g, o, none⟩) n c, .int .i64 0] ?_ ?_
          focus (go_simp; done)
          refine (HN0.out _ (HS2.out.later HK0.out)).mono ?_
          rintro r W' ⟨rfl, rfl⟩
          refine ⟨_, rfl, HK0.out, ?_⟩
          simp only [List.getElem_toArray, List.getElem_cons_succ, List.getElem_cons_zero, Act.put, List.setIfInBounds_toArray, List.set_cons_zero, List.set_cons_succ]
          refine lexP_yield (v := .int .i64 (e0 : Int)) rfl rfl (fun W hW => ?_) ?_
          focus (go_simp; first | done | rw [hc16])
          simp only [List.getElem_toArray, List.getElem_cons_succ, List.getElem_cons_zero, Act.put, List.setIfInBounds_toArray, List.set_cons_zero, List.set_cons_succ]
          refine lexP_or rfl rfl ?_ ?_
          · skip
            refine wp_goCall 45 #[.slice (some ⟨g, o, none⟩) n c, .int .i64 8] ?_ ?_
            focus (go_simp; done)
            refine (HN8.out _ (HS2.out.later HK0.out)).mono ?_
            rintro r W' ⟨rfl, rfl⟩
            refine ⟨_, rfl, HK0.out, ?_⟩
            simp only [List.getElem_toArray, List.getElem_cons_succ, List.getElem_cons_zero, Act.put, List.setIfInBounds_toArray, List.set_cons_zero, List.set_cons_succ]
            refine lexP_step rfl rfl ?_
            unfold Oper.wp
            go_simp
            have HK1 := Lib.hid (show Below w2.heap.size w2 (W0.alloc (.cells #[] 5)) from HK0.out.alloc HK0.out.size _)
            have HO := Lib.hid (World.ownsRow_made W0 (e := 5) (base := w2.heap.size) (size := 1) #[] 0 HK0.out.size (Nat.zero_le _) (by simp))
            refine ⟨HK1.out, ?_⟩
            clear HK0
            generalize W0.alloc (.cells #[] 5) = V1 at *
            generalize W0.heap.size = b5 at *
            refine lexP_step rfl rfl ?_
            refine wp_append_src _ _ _ 27 rfl w2.heap.size 5 i0 _ 1 1 Tryd.underlying27 hi hz0 hz1 hz2 rfl (by decide) _ _ _ HO.out HK1.out.size (some (if c = 24 then (⟨g, o, none⟩ : Addr) else ⟨g, o + 24 * 1, none⟩)) (n - 24) (c - 24) (bytL (n - 24) (shX x 24)) rfl rfl (by rw [bytL_len]; omega) ((HS2.out.later HK1.out).tail hnc).cells (bytL_one _ _) (by omega) (by decide) ?_
            intro v5 V2 hown ho _
            rw [Nat.zero_add, List.nil_append] at hown
            obtain ⟨a8, c8, e8, _⟩ := owns_slice hown
            subst e8
            have HK2 := Lib.hid (show Below w2.heap.size w2 V2 from ho.below HK1.out HK1.out.size (fun q hq => (HO.out.lt q hq).1))
            have HV := Lib.hid (show BytAt w2.heap.size (lisX (shX x 24) (n - 24)) (.slice a8 (n - 24) c8) V2 from by
              unfold BytAt
              rw [lisX_len, bvs_lisX]
              exact hown)
            refine ⟨HK2.out, ?_⟩
            clear hown ho HO HK1
            simp only [List.getElem_toArray, List.getElem_cons_succ, List.getElem_cons_zero, Act.put, List.setIfInBounds_toArray, List.set_cons_zero, List.set_cons_succ]
            refine lexP_yieldE rfl rfl ?_
            apply Exists.intro
            refine ⟨fun W hW => ?_, ?_⟩
            focus (go_simp; exact rfl)
            simp only [List.getElem_toArray, List.getElem_cons_succ, List.getElem_cons_zero, Act.put, List.setIfInBounds_toArray, List.set_cons_zero, List.set_cons_succ]
            refine lexP_last rfl rfl ?_
            have hR5 := HR2.out.later HK2.out
            have hth : V2.there (w.heap.size + 1) 0 3 := hR5.there 0 3 (by decide)
            refine wp_store_mid (op := _) 41 (.tmp 4) (.tmp 23) rfl (w.heap.size + 1) 0 (rsA (e0 : Int) v8 a8 (n - 24) c8) ?_ ?_ hth sizeRes (by simp [Value.oneCell']) ?_
            · rfl
            · rfl
            have ho := Only.setCells (S := fun k => k = w.heap.size + 1) (b := w.heap.size + 1) rfl (rsA (e0 : Int) v8 a8 (n - 24) c8).toList 0 V2
            refine ⟨.slice (some ⟨g, o, none⟩) n c, .int .u64 (e0 : Int), .int .i64 (e0 : Int), .slice (some ⟨g, o, none⟩) n c, .int .u64 (v8 : Int), .slice (some ⟨b5, 0, none⟩) 0 0, .slice (some ⟨g, o, none⟩) n c, .slice (some (if c = 24 then (⟨g, o, none⟩ : Addr) else ⟨g, o + 24 * 1, none⟩)) (n - 24) (c - 24), .slice a8 (n - 24) c8, a8, c8, by simp only [List.getElem_toArray, List.getElem_cons_succ, List.getElem_cons_zero, Act.put, List.setIfInBounds_toArray, List.set_cons_zero, List.set_cons_succ], ?_, ?_, ?_, ?_⟩
            · exact (RowAt.setCells (rsA (e0 : Int) v8 a8 (n - 24) c8).toList 0 V2 _ hR5).ext (fun i hi => by
                match i, hi with
                | 0, _ | 1, _ | 2, _ => rfl)
            · exact (HR0.out.later HK2.out).only ho (by omega)
            · exact (HV.out.only ho (fun k hk => by have := (HV.out.lt k hk).1; have := HR2.out.lt; omega)).low (by have := HR2.out.lt; omega)
            · exact ho.below (HB2.out.trans (HK2.out.mono HB2.out.size)) (Nat.le_trans HB2.out.size HK2.out.size) (fun k hk => by omega)
          · skip
            refine lexP_step rfl rfl ?_
            unfold Oper.wp
            go_simp
            have HK1 := Lib.hid (show Below w2.heap.size w2 (W0.alloc (.cells #[] 5)) from HK0.out.alloc HK0.out.size _)
            have HO := Lib.hid (World.ownsRow_made W0 (e := 5) (base := w2.heap.size) (size := 1) #[] 0 HK0.out.size (Nat.zero_le _) (by simp))
            refine ⟨HK1.out, ?_⟩
            clear HK0
            generalize W0.alloc (.cells #[] 5) = V1 at *
            generalize W0.heap.size = b5 at *
            refine lexP_step rfl rfl ?_
            refine wp_goCall 45 #[.slice (some ⟨g, o, none⟩) n c, .int .i64 8] ?_ ?_
            focus (go_simp; done)
            refine (HN8.out _ (HS2.out.later HK1.out)).mono ?_
            rintro r W' ⟨rfl, rfl⟩
            refine ⟨_, rfl, HK1.out, ?_⟩
            simp only [List.getElem_toArray, List.getElem_cons_succ, List.getElem_cons_zero, Act.put, List.setIfInBounds_toArray, List.set_cons_zero, List.set_cons_succ]
            refine lexP_step rfl rfl ?_
            refine wp_append_src _ _ _ 27 rfl w2.heap.size 5 i0 _ 1 1 Tryd.underlying27 hi hz0 hz1 hz2 rfl (by decide) _ _ _ HO.out HK1.out.size (some (if c = 24 then (⟨g, o, none⟩ : Addr) else ⟨g, o + 24 * 1, none⟩)) (n - 24) (c - 24) (bytL (n - 24) (shX x 24)) rfl rfl (by rw [bytL_len]; omega) ((HS2.out.later HK1.out).tail hnc).cells (bytL_one _ _) (by omega) (by decide) ?_
            intro v5 V2 hown ho _
            rw [Nat.zero_add, List.nil_append] at hown
            obtain ⟨a8, c8, e8, _⟩ := owns_slice hown
            subst e8
            have HK2 := Lib.hid (show Below w2.heap.size w2 V2 from ho.below HK1.out HK1.out.size (fun q hq => (HO.out.lt q hq).1))
            have HV := Lib.hid (show BytAt w2.heap.size (lisX (shX x 24) (n - 24)) (.slice a8 (n - 24) c8) V2 from by
              unfold BytAt
              rw [lisX_len, bvs_lisX]
              exact hown)
            refine ⟨HK2.out, ?_⟩
            clear hown ho HO HK1
            simp only [List.getElem_toArray, List.getElem_cons_succ, List.getElem_cons_zero, Act.put, List.setIfInBounds_toArray, List.set_cons_zero, List.set_cons_succ]
            refine lexP_yieldE rfl rfl ?_
            apply Exists.intro
            refine ⟨fun W hW => ?_, ?_⟩
            focus (go_simp; exact rfl)
            simp only [List.getElem_toArray, List.getElem_cons_succ, List.getElem_cons_zero, Act.put, List.setIfInBounds_toArray, List.set_cons_zero, List.set_cons_succ]
            refine lexP_last rfl rfl ?_
            have hR5 := HR2.out.later HK2.out
            have hth : V2.there (w.heap.size + 1) 0 3 := hR5.there 0 3 (by decide)
            refine wp_store_mid (op := _) 41 (.tmp 4) (.tmp 23) rfl (w.heap.size + 1) 0 (rsA (e0 : Int) v8 a8 (n - 24) c8) ?_ ?_ hth sizeRes (by simp [Value.oneCell']) ?_
            · rfl
            · rfl
            have ho := Only.setCells (S := fun k => k = w.heap.size + 1) (b := w.heap.size + 1) rfl (rsA (e0 : Int) v8 a8 (n - 24) c8).toList 0 V2
            refine ⟨.slice (some ⟨g, o, none⟩) n c, .int .u64 (e0 : Int), .int .i64 (e0 : Int), .slice (some ⟨g, o, none⟩) n c, .int .u64 (v8 : Int), .slice (some ⟨b5, 0, none⟩) 0 0, .slice (some ⟨g, o, none⟩) n c, .slice (some (if c = 24 then (⟨g, o, none⟩ : Addr) else ⟨g, o + 24 * 1, none⟩)) (n - 24) (c - 24), .slice a8 (n - 24) c8, a8, c8, by simp only [List.getElem_toArray, List.getElem_cons_succ, List.getElem_cons_zero, Act.put, List.setIfInBounds_toArray, List.set_cons_zero, List.set_cons_succ], ?_, ?_, ?_, ?_⟩
            · exact (RowAt.setCells (rsA (e0 : Int) v8 a8 (n - 24) c8).toList 0 V2 _ hR5).ext (fun i hi => by
                match i, hi with
                | 0, _ | 1, _ | 2, _ => rfl)
            · exact (HR0.out.later HK2.out).only ho (by omega)
            · exact (HV.out.only ho (fun k hk => by have := (HV.out.lt k hk).1; have := HR2.out.lt; omega)).low (by have := HR2.out.lt; omega)
            · exact ho.below (HB2.out.trans (HK2.out.mono HB2.out.size)) (Nat.le_trans HB2.out.size HK2.out.size) (fun k hk => by omega)
        · skip
          refine lexP_step rfl rfl ?_
          unfold Oper.wp
          go_simp
          have HK1 := Lib.hid (show Below w2.heap.size w2 (W0.alloc (.cells #[] 5)) from HK0.out.alloc HK0.out.size _)
          have HO := Lib.hid (World.ownsRow_made W0 (e := 5) (base := w2.heap.size) (size := 1) #[] 0 HK0.out.size (Nat.zero_le _) (by simp))
          refine ⟨HK1.out, ?_⟩
          clear HK0
          generalize W0.alloc (.cells #[] 5) = V1 at *
          generalize W0.heap.size = b5 at *
          refine lexP_step rfl rfl ?_
          refine wp_goCall 45 #[.slice (some ⟨g, o, none⟩) n c, .int .i64 0] ?_ ?_
          focus (go_simp; done)
          refine (HN0.out _ (HS2.out.later HK1.out)).mono ?_
          rintro r W' ⟨rfl, rfl⟩
          refine ⟨_, rfl, HK1.out, ?_⟩
          simp only [List.getElem_toArray, List.getElem_cons_succ, List.getElem_cons_zero, Act.put, List.setIfInBounds_toArray, List.set_cons_zero, List.set_cons_succ]
          refine lexP_yield (v := .int .i64 (e0 : Int)) rfl rfl (fun W hW => ?_) ?_
          focus (go_simp; first | done | rw [hc16])
          simp only [List.getElem_toArray, List.getElem_cons_succ, List.getElem_cons_zero, Act.put, List.setIfInBounds_toArray, List.set_cons_zero, List.set_cons_succ]
          refine lexP_step rfl rfl ?_
          refine wp_goCall 45 #[.slice (some ⟨g, o, none⟩) n c, .int .i64 8] ?_ ?_
          focus (go_simp; done)
          refine (HN8.out _ (HS2.out.later HK1.out)).mono ?_
          rintro r W' ⟨rfl, rfl⟩
          refine ⟨_, rfl, HK1.out, ?_⟩
          simp only [List.getElem_toArray, List.getElem_cons_succ, List.getElem_cons_zero, Act.put, List.setIfInBounds_toArray, List.set_cons_zero, List.set_cons_succ]
          refine lexP_step rfl rfl ?_
          refine wp_append_src _ _ _ 27 rfl w2.heap.size 5 i0 _ 1 1 Tryd.underlying27 hi hz0 hz1 hz2 rfl (by decide) _ _ _ HO.out HK1.out.size (some (if c = 24 then (⟨g, o, none⟩ : Addr) else ⟨g, o + 24 * 1, none⟩)) (n - 24) (c - 24) (bytL (n - 24) (shX x 24)) rfl rfl (by rw [bytL_len]; omega) ((HS2.out.later HK1.out).tail hnc).cells (bytL_one _ _) (by omega) (by decide) ?_
          intro v5 V2 hown ho _
          rw [Nat.zero_add, List.nil_append] at hown
          obtain ⟨a8, c8, e8, _⟩ := owns_slice hown
          subst e8
          have HK2 := Lib.hid (show Below w2.heap.size w2 V2 from ho.below HK1.out HK1.out.size (fun q hq => (HO.out.lt q hq).1))
          have HV := Lib.hid (show BytAt w2.heap.size (lisX (shX x 24) (n - 24)) (.slice a8 (n - 24) c8) V2 from by
            unfold BytAt
            rw [lisX_len, bvs_lisX]
            exact hown)
          refine ⟨HK2.out, ?_⟩
          clear hown ho HO HK1
          simp only [List.getElem_toArray, List.getElem_cons_succ, List.getElem_cons_zero, Act.put, List.setIfInBounds_toArray, List.set_cons_zero, List.set_cons_succ]
          refine lexP_yieldE rfl rfl ?_
          apply Exists.intro
          refine ⟨fun W hW => ?_, ?_⟩
          focus (go_simp; exact rfl)
          simp only [List.getElem_toArray, List.getElem_cons_succ, List.getElem_cons_zero, Act.put, List.setIfInBounds_toArray, List.set_cons_zero, List.set_cons_succ]
          refine lexP_last rfl rfl ?_
          have hR5 := HR2.out.later HK2.out
          have hth : V2.there (w.heap.size + 1) 0 3 := hR5.there 0 3 (by decide)
          refine wp_store_mid (op := _) 41 (.tmp 4) (.tmp 23) rfl (w.heap.size + 1) 0 (rsA (e0 : Int) v8 a8 (n - 24) c8) ?_ ?_ hth sizeRes (by simp [Value.oneCell']) ?_
          · rfl
          · rfl
          have ho := Only.setCells (S := fun k => k = w.heap.size + 1) (b := w.heap.size + 1) rfl (rsA (e0 : Int) v8 a8 (n - 24) c8).toList 0 V2
          refine ⟨.slice (some ⟨g, o, none⟩) n c, .int .u64 (e0 : Int), .int .i64 (e0 : Int), .slice (some ⟨g, o, none⟩) n c, .int .u64 (v8 : Int), .slice (some ⟨b5, 0, none⟩) 0 0, .slice (some ⟨g, o, none⟩) n c, .slice (some (if c = 24 then (⟨g, o, none⟩ : Addr) else ⟨g, o + 24 * 1, none⟩)) (n - 24) (c - 24), .slice a8 (n - 24) c8, a8, c8, by simp only [List.getElem_toArray, List.getElem_cons_succ, List.getElem_cons_zero, Act.put, List.setIfInBounds_toArray, List.set_cons_zero, List.set_cons_succ], ?_, ?_, ?_, ?_⟩
          · exact (RowAt.setCells (rsA (e0 : Int) v8 a8 (n - 24) c8).toList 0 V2 _ hR5).ext (fun i hi => by
              match i, hi with
              | 0, _ | 1, _ | 2, _ => rfl)
          · exact (HR0.out.later HK2.out).only ho (by omega)
          · exact (HV.out.only ho (fun k hk => by have := (HV.out.lt k hk).1; have := HR2.out.lt; omega)).low (by have := HR2.out.lt; omega)
          · exact ho.below (HB2.out.trans (HK2.out.mono HB2.out.size)) (Nat.le_trans HB2.out.size HK2.out.size) (fun k hk => by omega)
      · rintro e xx W hx
        cases e <;> try exact hx.elim
        obtain ⟨u14, u15, u16, u17, u18, u19, u20, u21, u22, a8, c8, rfl, hR, hR0, hV, hB⟩ := hx
        have HR := Lib.hid hR
        have HZ := Lib.hid hR0
        have HV := Lib.hid hV
        have HVB := Lib.hid hV
        have HB := Lib.hid hB
        clear hR hR0 hV hB
        simp only [Act.put, List.setIfInBounds_toArray, List.set_cons_zero, List.set_cons_succ]
        have HSV := Lib.hid (show Src W a8 (n - 24) (shX x 24) from src_byt HV.out)
        have LR := Lib.hid (show ∀ V, Kept W.heap.size W V → (loadVar 41 ⟨w.heap.size + 1, 0, none⟩).run Tryd.prog V = .ok (.agg (rsA (e0 : Int) v8 a8 (n - 24) c8)) V from fun V hV => load_res (HR.out.later hV.below))
        have HMR := Lib.hid (fun V => rmayr_any (e0 : Int) v8 a8 (n - 24) c8 (by omega) V)
        go_wp2_with (fail)
        cases hmay : mayRs (e0 : Int) v8 (n - 24) with
        | false =>
          rw [hmay] at HMR
          have HOKX := Lib.hid (show okX x n = false by unfold okX; rw [hN0, hN8, hmay]; simp)
          refine wp_region_lex (Kept W.heap.size W) [(0, false), (1, true), (2, false), (3, false), (4, false), (7, false), (8, false), (5, true), (6, true), (9, false), (10, false)] (by kernel_rfl) (by kernel_rfl) rfl (by kernel_rfl) (Below.refl _ W).drew ?_
          intro V0 hK0
          have HK0 := Lib.hid (show Below W.heap.size W V0 from hK0)
          clear hK0
          refine lexH_load rfl rfl _ _ rfl rfl LR.out ?_
          simp only [List.getElem_toArray, List.getElem_cons_zero, Act.put, List.setIfInBounds_toArray, List.set_cons_zero, List.set_cons_succ]
          refine lexH_call 27 #[rsV (e0 : Int) v8 a8 (n - 24) c8] rfl rfl ?_ ?_
          focus (go_simp; done)
          refine (HMR.out _).mono ?_
          rintro e V1 ⟨rfl, hb1⟩
          have HK1 := Lib.hid (HK0.out.trans (hb1.mono HK0.out.size))
          clear hb1
          refine ⟨_, rfl, HK1.out, ?_⟩
          simp only [List.getElem_toArray, List.getElem_cons_succ, List.getElem_cons_zero, Act.put, List.setIfInBounds_toArray, List.set_cons_zero, List.set_cons_succ]
          refine lexH_yieldE rfl rfl ?_
          apply Exists.intro
          refine ⟨fun W hW => ?_, ?_⟩
          focus (go_simp; exact rfl)
          simp only [List.getElem_toArray, List.getElem_cons_succ, List.getElem_cons_zero, Act.put, List.setIfInBounds_toArray, List.set_cons_zero, List.set_cons_succ]
          refine lexH_yieldE rfl rfl ?_
          apply Exists.intro
          refine ⟨fun W hW => ?_, ?_⟩
          focus (go_simp; exact rfl)
          simp only [List.getElem_toArray, List.getElem_cons_succ, List.getElem_cons_zero, Act.put, List.setIfInBounds_toArray, List.set_cons_zero, List.set_cons_succ]
          refine lexH_skip rfl rfl ?_
          simp only [List.getElem_toArray, List.getElem_cons_succ, List.getElem_cons_zero, Act.put, List.setIfInBounds_toArray, List.set_cons_zero, List.set_cons_succ]
          refine lexH_skip rfl rfl ?_
          simp only [List.getElem_toArray, List.getElem_cons_succ, List.getElem_cons_zero, Act.put, List.setIfInBounds_toArray, List.set_cons_zero, List.set_cons_succ]
          refine lexH_skip rfl rfl ?_
          simp only [List.getElem_toArray, List.getElem_cons_succ, List.getElem_cons_zero, Act.put, List.setIfInBounds_toArray, List.set_cons_zero, List.set_cons_succ]
          refine lexH_pass rfl rfl HK1.out ?_
          simp only [List.getElem_toArray, List.getElem_cons_succ, List.getElem_cons_zero, Act.put, List.setIfInBounds_toArray, List.set_cons_zero, List.set_cons_succ]
          refine lexH_pass rfl rfl HK1.out ?_
          simp only [List.getElem_toArray, List.getElem_cons_succ, List.getElem_cons_zero, Act.put, List.setIfInBounds_toArray, List.set_cons_zero, List.set_cons_succ]
          refine lexH_skip rfl rfl ?_
          simp only [List.getElem_toArray, List.getElem_cons_succ, List.getElem_cons_zero, Act.put, List.setIfInBounds_toArray, List.set_cons_zero, List.set_cons_succ]
          refine lexH_yieldE rfl rfl ?_
          apply Exists.intro
          refine ⟨fun W hW => ?_, ?_⟩
          focus (go_simp; exact rfl)
          simp only [List.getElem_toArray, List.getElem_cons_succ, List.getElem_cons_zero, Act.put, List.setIfInBounds_toArray, List.set_cons_zero, List.set_cons_succ]
          refine lexH_nil ?_
          have hth : V1.there w.heap.size 0 3 := (HZ.out.later HK1.out).there 0 3 (by decide)
          have HO := Lib.hid (Only.setCells (S := fun k => k = w.heap.size) (b := w.heap.size) rfl (#[.int .i64 0, .int .u64 0, .slice none 0 0] : Array Value).toList 0 V1)
          have HF := Lib.hid (HO.out.below (HB.out.trans (HK1.out.mono HB.out.size)) (Nat.le_trans HB.out.size HK1.out.size) (fun k hk => by omega))
          have HRF := Lib.hid ((RowAt.setCells (#[.int .i64 0, .int .u64 0, .slice none 0 0] : Array Value).toList 0 V1 _ (HZ.out.later HK1.out)).ext (g := fun i => (rsA 0 0 none 0 0).getD i undef) (fun i hi => by
            match i, hi with
            | 0, _ | 1, _ | 2, _ => rfl))
          go_wp2_with (first | (refine wpList_store_mid rfl 41 _ _ rfl w.heap.size 0 #[.int .i64 0, .int .u64 0, .slice none 0 0] rfl rfl hth sizeRes (by simp [Value.oneCell']) ?_) | fail)
          generalize V1.setCells w.heap.size 0 [Value.int .i64 0, .int .u64 0, .slice none 0 0] = WF at *
          have d0 : WF.cell? ⟨w.heap.size, 0, none⟩ = some (.int .i64 0) := HRF.out.cell 0 (by decide)
          have d1 : WF.cell? ⟨w.heap.size, 1, none⟩ = some (.int .u64 0) := HRF.out.cell 1 (by decide)
          have d2 : WF.cell? ⟨w.heap.size, 2, none⟩ = some (.slice none 0 0) := HRF.out.cell 2 (by decide)
          refine bodyPost_ret (v := .tuple #[rsV 0 0 none 0 0, .int .i64 5]) ?_ rfl (.inr ⟨HOKX.out, rfl, HF.out⟩)
          simp [results, Tryd.f21, go_sem, d0, d1, d2]
        | true =>
          rw [hmay] at HMR
          have hm8 : n - 24 ≤ 8 := by
            unfold mayRs at hmay
            split at hmay
            · cases hmay
            · omega
          have hv8 : v8 < 18446744073709551616 := by rw [← hN8]; exact numX_lt x n 8
          have HRB := Lib.hid (fun V hV => resbytes_any e0 v8 h9 hv8 a8 (n - 24) c8 (shX x 24) (by omega) V hV)
          have LX := Lib.hid (show ∀ V, Kept W.heap.size W V → (convert 27 9 (.slice (some ⟨g, o, none⟩) n c)).run Tryd.prog V = .ok (.string (strB n x)) V from fun V hV => run_string_src (HS.out.later (HB.out.trans (hV.below.mono HB.out.size))))
          refine wp_region_lex (Kept W.heap.size W) [(0, false), (1, true), (2, false), (3, false), (4, false), (7, false), (8, false), (5, true), (6, true), (9, false), (10, false)] (by kernel_rfl) (by kernel_rfl) rfl (by kernel_rfl) (Below.refl _ W).drew ?_
          intro V0 hK0
          have HK0 := Lib.hid (show Below W.heap.size W V0 from hK0)
          clear hK0
          refine lexH_load rfl rfl _ _ rfl rfl LR.out ?_
          simp only [List.getElem_toArray, List.getElem_cons_zero, Act.put, List.setIfInBounds_toArray, List.set_cons_zero, List.set_cons_succ]
          refine lexH_call 27 #[rsV (e0 : Int) v8 a8 (n - 24) c8] rfl rfl ?_ ?_
          focus (go_simp; done)
          refine (HMR.out _).mono ?_
          rintro e V1 ⟨rfl, hb1⟩
          have HK1 := Lib.hid (HK0.out.trans (hb1.mono HK0.out.size))
          clear hb1
          refine ⟨_, rfl, HK1.out, ?_⟩
          simp only [List.getElem_toArray, List.getElem_cons_succ, List.getElem_cons_zero, Act.put, List.setIfInBounds_toArray, List.set_cons_zero, List.set_cons_succ]
          refine lexH_yieldE rfl rfl ?_
          apply Exists.intro
          refine ⟨fun W hW => ?_, ?_⟩
          focus (go_simp; exact rfl)
          simp only [List.getElem_toArray, List.getElem_cons_succ, List.getElem_cons_zero, Act.put, List.setIfInBounds_toArray, List.set_cons_zero, List.set_cons_succ]
          refine lexH_yieldE rfl rfl ?_
          apply Exists.intro
          refine ⟨fun W hW => ?_, ?_⟩
          focus (go_simp; exact rfl)
          simp only [List.getElem_toArray, List.getElem_cons_succ, List.getElem_cons_zero, Act.put, List.setIfInBounds_toArray, List.set_cons_zero, List.set_cons_succ]
          refine lexH_load rfl rfl _ _ rfl rfl LR.out ?_
          simp only [List.getElem_toArray, List.getElem_cons_succ, List.getElem_cons_zero, Act.put, List.setIfInBounds_toArray, List.set_cons_zero, List.set_cons_succ]
          refine lexH_yieldE rfl rfl ?_
          apply Exists.intro
          refine ⟨fun W hW => ?_, ?_⟩
          focus (go_simp; exact rfl)
          simp only [List.getElem_toArray, List.getElem_cons_succ, List.getElem_cons_zero, Act.put, List.setIfInBounds_toArray, List.set_cons_zero, List.set_cons_succ]
          refine lexH_conv rfl rfl _ _ _ rfl rfl LX.out ?_
          simp only [List.getElem_toArray, List.getElem_cons_succ, List.getElem_cons_zero, Act.put, List.setIfInBounds_toArray, List.set_cons_zero, List.set_cons_succ]
          refine lexH_call 29 #[rsV (e0 : Int) v8 a8 (n - 24) c8] rfl rfl ?_ ?_
          focus (go_simp; done)
          refine (HRB.out V1 (HSV.out.later HK1.out)).mono ?_
          rintro e V2 ⟨v9, rfl, h9v, hb2⟩
          have HK2 := Lib.hid (HK1.out.trans (hb2.mono HK1.out.size))
          have HT := Lib.hid (str_byt h9v)
          obtain ⟨a9, c9, e9, _⟩ := h9v.there
          subst e9
          clear hb2 h9v
          refine ⟨_, rfl, HK2.out, ?_⟩
          simp only [List.getElem_toArray, List.getElem_cons_succ, List.getElem_cons_zero, Act.put, List.setIfInBounds_toArray, List.set_cons_zero, List.set_cons_succ]
          refine lexH_convT rfl rfl _ _ _ rfl rfl HT.out HK2.out ?_
          simp only [List.getElem_toArray, List.getElem_cons_succ, List.getElem_cons_zero, Act.put, List.setIfInBounds_toArray, List.set_cons_zero, List.set_cons_succ]
          cases hne : ((strL (resL e0 v8 (shX x 24) (n - 24))).toList == (strB n x).toList) with
          | false =>
            have HOKX := Lib.hid (show okX x n = false by unfold okX; rw [hN0, hN8, hmay, hne]; simp)
            generalize strL (resL e0 v8 (shX x 24) (n - 24)) = s1 at *
            generalize strB n x = s2 at *
            refine lexH_yield (v := .bool true) rfl rfl (fun W hW => ?_) ?_
            focus (go_simp; first | done | simp [hne, bne])
            simp only [List.getElem_toArray, List.getElem_cons_succ, List.getElem_cons_zero, Act.put, List.setIfInBounds_toArray, List.set_cons_zero, List.set_cons_succ]
            refine lexH_yieldE rfl rfl ?_
            apply Exists.intro
            refine ⟨fun W hW => ?_, ?_⟩
            focus (go_simp; exact rfl)
            simp only [List.getElem_toArray, List.getElem_cons_succ, List.getElem_cons_zero, Act.put, List.setIfInBounds_toArray, List.set_cons_zero, List.set_cons_succ]
            refine lexH_nil ?_
            have hth : V2.there w.heap.size 0 3 := (HZ.out.later HK2.out).there 0 3 (by decide)
            have HO := Lib.hid (Only.setCells (S := fun k => k = w.heap.size) (b := w.heap.size) rfl (#[.int .i64 0, .int .u64 0, .slice none 0 0] : Array Value).toList 0 V2)
            have HF := Lib.hid (HO.out.below (HB.out.trans (HK2.out.mono HB.out.size)) (Nat.le_trans HB.out.size HK2.out.size) (fun k hk => by omega))
            have HRF := Lib.hid ((RowAt.setCells (#[.int .i64 0, .int .u64 0, .slice none 0 0] : Array Value).toList 0 V2 _ (HZ.out.later HK2.out)).ext (g := fun i => (rsA 0 0 none 0 0).getD i undef) (fun i hi => by
              match i, hi with
              | 0, _ | 1, _ | 2, _ => rfl))
            go_wp2_with (first | (refine wpList_store_mid rfl 41 _ _ rfl w.heap.size 0 #[.int .i64 0, .int .u64 0, .slice none 0 0] rfl rfl hth sizeRes (by simp [Value.oneCell']) ?_) | fail)
            generalize V2.setCells w.heap.size 0 [Value.int .i64 0, .int .u64 0, .slice none 0 0] = WF at *
            have d0 : WF.cell? ⟨w.heap.size, 0, none⟩ = some (.int .i64 0) := HRF.out.cell 0 (by decide)
            have d1 : WF.cell? ⟨w.heap.size, 1, none⟩ = some (.int .u64 0) := HRF.out.cell 1 (by decide)
            have d2 : WF.cell? ⟨w.heap.size, 2, none⟩ = some (.slice none 0 0) := HRF.out.cell 2 (by decide)
            refine bodyPost_ret (v := .tuple #[rsV 0 0 none 0 0, .int .i64 5]) ?_ rfl (.inr ⟨HOKX.out, rfl, HF.out⟩)
            simp [results, Tryd.f21, go_sem, d0, d1, d2]
          | true =>
            have HOKX := Lib.hid (show okX x n = true by unfold okX; rw [hN0, hN8, hmay, hne, decide_eq_true h9, decide_eq_true h24]; rfl)
            have HV2 := Lib.hid (HVB.out.later HK2.out)
            generalize strL (resL e0 v8 (shX x 24) (n - 24)) = s1 at *
            generalize strB n x = s2 at *
            refine lexH_yield (v := .bool false) rfl rfl (fun W hW => ?_) ?_
            focus (go_simp; first | done | simp [hne, bne])
            simp only [List.getElem_toArray, List.getElem_cons_succ, List.getElem_cons_zero, Act.put, List.setIfInBounds_toArray, List.set_cons_zero, List.set_cons_succ]
            refine lexH_yieldE rfl rfl ?_
            apply Exists.intro
            refine ⟨fun W hW => ?_, ?_⟩
            focus (go_simp; exact rfl)
            simp only [List.getElem_toArray, List.getElem_cons_succ, List.getElem_cons_zero, Act.put, List.setIfInBounds_toArray, List.set_cons_zero, List.set_cons_succ]
            refine lexH_nil ?_
            have l0 : V2.cell? ⟨w.heap.size + 1, 0, none⟩ = some (.int .i64 (e0 : Int)) := (HR.out.later HK2.out).cell 0 (by decide)
            have l1 : V2.cell? ⟨w.heap.size + 1, 1, none⟩ = some (.int .u64 (v8 : Int)) := (HR.out.later HK2.out).cell 1 (by decide)
            have l2 : V2.cell? ⟨w.heap.size + 1, 2, none⟩ = some (.slice a8 (n - 24) c8) := (HR.out.later HK2.out).cell 2 (by decide)
            have hth : V2.there w.heap.size 0 3 := (HZ.out.later HK2.out).there 0 3 (by decide)
            have HO := Lib.hid (Only.setCells (S := fun k => k = w.heap.size) (b := w.heap.size) rfl ((rsA (e0 : Int) v8 a8 (n - 24) c8) : Array Value).toList 0 V2)
            have HF := Lib.hid (HO.out.below (HB.out.trans (HK2.out.mono HB.out.size)) (Nat.le_trans HB.out.size HK2.out.size) (fun k hk => by omega))
            have HRF := Lib.hid ((RowAt.setCells ((rsA (e0 : Int) v8 a8 (n - 24) c8) : Array Value).toList 0 V2 _ (HZ.out.later HK2.out)).ext (g := fun i => (rsA (e0 : Int) v8 a8 (n - 24) c8).getD i undef) (fun i hi => by
              match i, hi with
              | 0, _ | 1, _ | 2, _ => rfl))
            go_wp2_with (first | (refine wpList_store_mid rfl 41 _ _ rfl w.heap.size 0 (rsA (e0 : Int) v8 a8 (n - 24) c8) rfl rfl hth sizeRes (by simp [Value.oneCell']) ?_) | fail)
            generalize V2.setCells w.heap.size 0 [Value.int .i64 (e0 : Int), .int .u64 (v8 : Int), .slice a8 (n - 24) c8] = WF at *
            have d0 : WF.cell? ⟨w.heap.size, 0, none⟩ = some (.int .i64 (e0 : Int)) := HRF.out.cell 0 (by decide)
            have d1 : WF.cell? ⟨w.heap.size, 1, none⟩ = some (.int .u64 (v8 : Int)) := HRF.out.cell 1 (by decide)
            have d2 : WF.cell? ⟨w.heap.size, 2, none⟩ = some (.slice a8 (n - 24) c8) := HRF.out.cell 2 (by decide)
            have hsv : Src WF a8 (n - 24) (shX x 24) := src_byt (HV2.out.only HO.out (fun k hk e => by have := (HV2.out.lt k hk).1; omega))
            refine bodyPost_ret (v := .tuple #[rsV (e0 : Int) v8 a8 (n - 24) c8, .int .i64 0]) ?_ rfl (.inl ⟨HOKX.out, a8, c8, by rw [hN0, hN8], hsv, HF.out⟩)
            simp [results, Tryd.f21, go_sem, d0, d1, d2]
    · have h9I : ¬ (999 : Int) < (numX x n 0 : Nat) := by omega
      have h24I : (n : Int) < 24 := by omega
      have HOKX := Lib.hid (show okX x n = false by unfold okX; rw [decide_eq_false h24]; simp)
      have l0 : w2.cell? ⟨w.heap.size + 1, 0, none⟩ = some (.int .i64 0) := HR2.out.cell 0 (by decide)
      have l1 : w2.cell? ⟨w.heap.size + 1, 1, none⟩ = some (.int .u64 0) := HR2.out.cell 1 (by decide)
      have l2 : w2.cell? ⟨w.heap.size + 1, 2, none⟩ = some (.slice none 0 0) := HR2.out.cell 2 (by decide)
      have hth : w2.there w.heap.size 0 3 := HR0.out.there 0 3 (by decide)
      have HO := Lib.hid (Only.setCells (S := fun k => k = w.heap.size) (b := w.heap.size) rfl [Value.int .i64 0, .int .u64 0, .slice none 0 0] 0 w2)
      have HF := Lib.hid (HO.out.below HB2.out HB2.out.size (fun k hk => by omega))
      have HRF := Lib.hid ((RowAt.setCells [Value.int .i64 0, .int .u64 0, .slice none 0 0] 0 w2 _ HR0.out).ext (g := fun i => (rsA 0 0 none 0 0).getD i undef) (fun i hi => by
        match i, hi with
        | 0, _ | 1, _ | 2, _ => rfl))
      go_enter Tryd.func21, Tryd.ntmps21
      go_wp2_with (fail)
      rw [← hw2]
      refine (HN0.out _ HS2.out).mono ?_
      rintro e w' ⟨rfl, rfl⟩
      clear hw2
      go_wp2_with (first | (refine wpList_store_mid rfl 41 _ _ rfl w.heap.size 0 #[.int .i64 0, .int .u64 0, .slice none 0 0] rfl rfl hth sizeRes (by simp [Value.oneCell']) ?_) | fail)
      generalize w2.setCells w.heap.size 0 [Value.int .i64 0, .int .u64 0, .slice none 0 0] = WF at *
      have d0 : WF.cell? ⟨w.heap.size, 0, none⟩ = some (.int .i64 0) := HRF.out.cell 0 (by decide)
      have d1 : WF.cell? ⟨w.heap.size, 1, none⟩ = some (.int .u64 0) := HRF.out.cell 1 (by decide)
      have d2 : WF.cell? ⟨w.heap.size, 2, none⟩ = some (.slice none 0 0) := HRF.out.cell 2 (by decide)
      refine bodyPost_ret (v := .tuple #[rsV 0 0 none 0 0, .int .i64 5]) ?_ rfl (.inr ⟨HOKX.out, rfl, HF.out⟩)
      simp [results, Tryd.f21, go_sem, d0, d1, d2]
  · have h9I : (999 : Int) < (numX x n 0 : Nat) := by omega
    have HOKX := Lib.hid (show okX x n = false by unfold okX; rw [decide_eq_false h9]; simp)
    have l0 : w2.cell? ⟨w.heap.size + 1, 0, none⟩ = some (.int .i64 0) := HR2.out.cell 0 (by decide)
    have l1 : w2.cell? ⟨w.heap.size + 1, 1, none⟩ = some (.int .u64 0) := HR2.out.cell 1 (by decide)
    have l2 : w2.cell? ⟨w.heap.size + 1, 2, none⟩ = some (.slice none 0 0) := HR2.out.cell 2 (by decide)
    have hth : w2.there w.heap.size 0 3 := HR0.out.there 0 3 (by decide)
    have HO := Lib.hid (Only.setCells (S := fun k => k = w.heap.size) (b := w.heap.size) rfl [Value.int .i64 0, .int .u64 0, .slice none 0 0] 0 w2)
    have HF := Lib.hid (HO.out.below HB2.out HB2.out.size (fun k hk => by omega))
    have HRF := Lib.hid ((RowAt.setCells [Value.int .i64 0, .int .u64 0, .slice none 0 0] 0 w2 _ HR0.out).ext (g := fun i => (rsA 0 0 none 0 0).getD i undef) (fun i hi => by
      match i, hi with
      | 0, _ | 1, _ | 2, _ => rfl))
    go_enter Tryd.func21, Tryd.ntmps21
    go_wp2_with (fail)
    rw [← hw2]
    refine (HN0.out _ HS2.out).mono ?_
    rintro e w' ⟨rfl, rfl⟩
    clear hw2
    go_wp2_with (first | (refine wpList_store_mid rfl 41 _ _ rfl w.heap.size 0 #[.int .i64 0, .int .u64 0, .slice none 0 0] rfl rfl hth sizeRes (by simp [Value.oneCell']) ?_) | fail)
    generalize w2.setCells w.heap.size 0 [Value.int .i64 0, .int .u64 0, .slice none 0 0] = WF at *
    have d0 : WF.cell? ⟨w.heap.size, 0, none⟩ = some (.int .i64 0) := HRF.out.cell 0 (by decide)
    have d1 : WF.cell? ⟨w.heap.size, 1, none⟩ = some (.int .u64 0) := HRF.out.cell 1 (by decide)
    have d2 : WF.cell? ⟨w.heap.size, 2, none⟩ = some (.slice none 0 0) := HRF.out.cell 2 (by decide)
    refine bodyPost_ret (v := .tuple #[rsV 0 0 none 0 0, .int .i64 5]) ?_ rfl (.inr ⟨HOKX.out, rfl, HF.out⟩)
    simp [results, Tryd.f21, go_sem, d0, d1, d2]
end Go.Proofs.YtkmjkkeldbocdaaDoor
