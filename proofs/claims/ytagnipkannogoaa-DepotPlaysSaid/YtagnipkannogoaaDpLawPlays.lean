/-
  The walk of DepotPlays: it returns true, and below the old heap nothing has turned.
-/
import Derived.Test.YtagnipkannogoaaDpBoth
import Derived.Test.YtagnipkannogoaaDpLawKeeps
import Derived.Deep.DeepCutAuto
import Derived.Deep.CutBlock
namespace Go.Proofs.Ytagnipkannogoaa
open Go.RowKit Go
theorem infoOpD : (Try.prog.info? 34).map (·.size) = some 3 := by kernel_rfl
theorem store_opd (w : World) (Z : Array Value) (hz : Z.size = 3) (kind n : Int) (la : Option Addr) (ln cp : Nat) :
    (storeVar 34 ⟨w.heap.size, 0, none⟩ (.agg #[.int .i64 kind, .int .i64 n, .slice la ln cp])).run Try.prog (w.alloc (.cells Z 34)) = .ok () (w.alloc (.cells #[.int .i64 kind, .int .i64 n, .slice la ln cp] 34)) :=
  run_storeVar_new (P := Try.prog) w 34 Z _ infoOpD hz (by simp [Value.oneCell'])
/-- The call's own box, as a row. -/
def rOp (ob : Nat) (kind n : Int) (la : Option Addr) (ln cp : Nat) : Rw := rC ob 34 [.int .i64 kind, .int .i64 n, .slice la ln cp]
section
variable {w0 w w' : World} {d r N k ob ln cp : Nat} {F F2 : List Obs} {Q Q2 A m : Obs} {l l2 : List Rw} {u v : Value} {kind n : Int} {la : Option Addr}
theorem PB.op (h : PB w0 d r N F Q F2 Q2 l w) (hm : rOp ob kind n la ln cp ∈ l) : w.cell? ⟨ob, 0, none⟩ = some (.int .i64 kind) ∧ w.cell? ⟨ob, 1, none⟩ = some (.int .i64 n) ∧ w.cell? ⟨ob, 2, none⟩ = some (.slice la ln cp) :=
  ⟨(rC_cell (h.row hm) (j := 0) rfl).1, (rC_cell (h.row hm) (j := 1) rfl).1, (rC_cell (h.row hm) (j := 2) rfl).1⟩
theorem PB.boxOp (h : PB w0 d r N F Q F2 Q2 l w) : PB w0 d r N F Q F2 Q2 (rOp w.heap.size kind n la ln cp :: l) (w.alloc (.cells #[.int .i64 kind, .int .i64 n, .slice la ln cp] 34)) :=
  h.fresh ((Below.refl _ _).alloc (Nat.le_refl _) _) (rC_new w) (fun k hk => by
    simp [rOp, rC, Value.ownBlock] at hk
    omega)
theorem PB.made0 (h : PB w0 d r N F Q F2 Q2 l w) : PB w0 d r N F Q F2 Q2 (rO (.slice (some ⟨w.heap.size, 0, none⟩) 0 0) [] :: l) (w.alloc (.cells #[] TO)) :=
  h.fresh ((Below.refl _ _).alloc (Nat.le_refl _) _) (World.ownsRow_made w (e := TO) (base := 0) (size := 2) #[] 0 (Nat.zero_le _) (Nat.zero_le _) (by simp)) (fun k hk => by simp [rO, Value.ownBlock] at hk; omega)
theorem wpList_pbOS {ops : Array Oper} {rest : List Oper} {o : Oper} {a : Act} {K : Exit → Act → World → Prop} (hgd : o.guard = none) (s x : Operand) (ho : o.op = .call { callee := .builtin .append, args := #[s, x], argTypes := #[30, 30] })
    {B : Obs} {v2 : Value} (h : PB w0 d r N F Q F2 Q2 (rO v A :: l) w) (hn : A.length + B.length ≤ 100000) (hB : SrcO w v2 B) (hs : a.eval s = v) (hx : a.eval x = v2)
    (hK : ∀ v' w', PB w0 d r N F Q F2 Q2 (rO v' (A ++ B) :: l) w' → wpList Try.prog ops K rest (a.put o.dst v') w') : wpList Try.prog ops K (o :: rest) a w := by
  obtain ⟨X, hX, vF, vQ, G, e, h⟩ := h
  exact wpList_fkOS hgd s x ho (h.perm dRows_out.symm) hn hB hs hx (fun v' w' h2 _ => hK v' w' ⟨X, hX, vF, vQ, G, e, h2.perm dRows_out⟩)
end
theorem dpPut_le (N : Nat) (m : Obs) (F : List Obs) (h : F.length ≤ 64) : (dpPut N m F).2.length ≤ 64 := by
  unfold dpPut
  split
  · split
    · rw [List.length_append, List.length_singleton]; omega
    · exact h
  · exact h
theorem dpGet_len (F : List Obs) (N : Nat) (h : ∀ m ∈ F, m.length = N) : (dpGet F).2.1.length ≤ N := by
  rcases List.eq_nil_or_concat F with rfl | ⟨F2, m, rfl⟩
  · exact Nat.zero_le _
  · rw [List.concat_eq_append, dpGet_snoc]
    exact Nat.le_of_eq (h m (by simp))
/-- What the region that queues wants. -/
def QS (r ob lb lo : Nat) (x y : Int) (q l : Value) (V : World) : Prop := V.cell? ⟨r, 2, none⟩ = some q ∧ V.cell? ⟨ob, 2, none⟩ = some l ∧ V.cell? ⟨lb, lo, none⟩ = some (.int .i64 x) ∧ V.cell? ⟨lb, lo + 1, none⟩ = some (.int .i64 y)
section
variable {w w1 w2 : World} {X : Thg} {r N ob lb lo ln cp : Nat} {x y kind n : Int} {vF vQ v2 : Value} {G : List (Value × Obs)} {Q Q' : Obs} {la : Option Addr}
theorem QS.of (h : FK w X (dRows r N vF vQ G Q [rOp ob kind n la ln cp]) w1) (hat : ∀ V, Below w.heap.size w V → V.cell? ⟨lb, lo, none⟩ = some (.int .i64 x) ∧ V.cell? ⟨lb, lo + 1, none⟩ = some (.int .i64 y)) : QS r ob lb lo x y vQ (.slice la ln cp) w1 :=
  ⟨FK.cell h (j := 2) rfl, (rC_cell (h.row (rOp ob kind n la ln cp) (by unfold dRows; simp)) (j := 2) rfl).1, (hat w1 h.bel).1, (hat w1 h.bel).2⟩
theorem QS.of2 (h : FK w X (dRows r N vF vQ G Q [rOp ob kind n la ln cp]) w1) (hat : ∀ V, Below w.heap.size w V → V.cell? ⟨lb, lo, none⟩ = some (.int .i64 x) ∧ V.cell? ⟨lb, lo + 1, none⟩ = some (.int .i64 y))
    (ho : Only (fun k => vQ.ownBlock = some k) w1 w2) (hr : w2.ownsRow 0 TO 2 v2 Q'.length (recV encO Q')) (hwh : v2.ownBlock = vQ.ownBlock ∨ ∀ k, v2.ownBlock = some k → w1.heap.size ≤ k) : QS r ob lb lo x y vQ (.slice la ln cp) w2 := by
  have h3 := (h.third.grow (r' := rO v2 Q') ho hr hwh).unthird
  exact ⟨FK.cell h3 (j := 2) rfl, (rC_cell (h3.row (rOp ob kind n la ln cp) (by simp)) (j := 2) rfl).1, (hat w2 h3.bel).1, (hat w2 h3.bel).2⟩
end
set_option maxRecDepth 100000 in
set_option maxHeartbeats 8000000 in
theorem lawDPlays_any (nn : Int) (a : Option Addr) (len cap : Nat) (O : Nat → OpD) (w : World) (hO : OpsD w a len O) :
    Calls Try.prog 3 #[.int .i64 nn, .slice a len cap] w fun e w' => e = .returned (.bool true) ∧ Below w.heap.size w w' := by
  have HO := Lib.hid hO
  clear hO
  by_cases hlen : len ≤ 200
  · have hlenI : ¬ (200 < (len : Int)) := by omega
    obtain ⟨i0, hi, hz0, hz1, hz2⟩ := info_parts infoObj
    go_enter Try.func3, Try.ntmps3
    go_wp2_with (fail)
    refine (newP nn w).mono ?_
    rintro e w1 ⟨d, X, rfl, hX, hK⟩
    have HX := Lib.hid hX
    have HK := Lib.hid hK
    clear hX hK
    go_wp2_with (fail)
    refine (rnew_any nn HK.out).mono ?_
    rintro e w2 ⟨r, rfl, hR⟩
    have HD := Lib.hid (show PB w d r (clN nn) [] [] [] [] [] w2 from ⟨X, HX.out, hR⟩)
    have h32 := clN_pos nn
    clear HX HK hR
    generalize clN nn = N at *
    have L1 := Lib.hid (show ∀ W, Kept w2.heap.size w2 W → (loadVar 3 ⟨r, 0, none⟩).run Try.prog W = .ok (.int .i64 N) W from
      fun W hW => run_loadVar_cell (fun _ => by kernel_rfl) (HD.out.later hW.below).c0)
    go_wp2_with (fail)
    refine wp_region_lex1 (Kept w2.heap.size w2) [(0, false), (2, false), (3, false), (4, false), (5, false), (1, true), (6, false)] (by kernel_rfl) (by kernel_rfl) rfl (by kernel_rfl) (Below.refl _ w2).drew ?_
    intro W0 hW0 hK0
    clear hW0
    refine lexH_yieldE rfl rfl ?_
    apply Exists.intro
    refine ⟨fun W hW => ?_, ?_⟩
    focus (go_simp; exact rfl)
    simp only [List.getElem_toArray, List.getElem_cons_zero, Act.put, List.setIfInBounds_toArray, List.set_cons_zero, List.set_cons_succ]
    refine lexH_yieldE rfl rfl ?_
    apply Exists.intro
    refine ⟨fun W hW => ?_, ?_⟩
    focus (go_simp; exact rfl)
    simp only [List.getElem_toArray, List.getElem_cons_succ, List.getElem_cons_zero, Act.put, List.setIfInBounds_toArray, List.set_cons_zero, List.set_cons_succ]
    refine lexH_yieldE rfl rfl ?_
    apply Exists.intro
    refine ⟨fun W hW => ?_, ?_⟩
    focus (go_simp; exact rfl)
    simp only [List.getElem_toArray, List.getElem_cons_succ, List.getElem_cons_zero, Act.put, List.setIfInBounds_toArray, List.set_cons_zero, List.set_cons_succ]
    refine lexH_yieldE rfl rfl ?_
    apply Exists.intro
    refine ⟨fun W hW => ?_, ?_⟩
    focus (go_simp; exact rfl)
    simp only [List.getElem_toArray, List.getElem_cons_succ, List.getElem_cons_zero, Act.put, List.setIfInBounds_toArray, List.set_cons_zero, List.set_cons_succ]
    refine lexH_load rfl rfl _ _ rfl rfl L1.out ?_
    simp only [List.getElem_toArray, List.getElem_cons_succ, List.getElem_cons_zero, Act.put, List.setIfInBounds_toArray, List.set_cons_zero, List.set_cons_succ]
    refine lexH_call 11 #[.pointer (some ⟨d, 0, none⟩)] rfl rfl ?_ ?_
    focus (go_simp; done)
    refine (roundsP (HD.out.later hK0.below)).mono ?_
    rintro e w' ⟨rfl, hb⟩
    have hK1 := hK0.call (Nat.le_refl _) hb
    refine ⟨_, rfl, hK1, ?_⟩
    have HD0 := Lib.hid (HD.out.later hK1.below)
    clear hK0 hK1 hb HD L1
    simp only [List.getElem_toArray, List.getElem_cons_succ, List.getElem_cons_zero, Act.put, List.setIfInBounds_toArray, List.set_cons_zero, List.set_cons_succ]
    refine lexH_yieldE rfl rfl ?_
    apply Exists.intro
    refine ⟨fun W hW => ?_, ?_⟩
    focus (go_simp; exact rfl)
    simp only [List.getElem_toArray, List.getElem_cons_succ, List.getElem_cons_zero, Act.put, List.setIfInBounds_toArray, List.set_cons_zero, List.set_cons_succ]
    refine lexH_nil ?_
    go_wp2_with (fail)
    go_loopw [35] (fun i wr => ∃ (k : Nat) (F : List Obs) (Q : Obs), k ≤ len ∧ i = .int .i64 k ∧ Hid (Q.length ≤ k ∧ PB w d r N F Q F Q [] wr)) (fun i _ => len - (intOf i).toNat)
    case atStart => exact ⟨0, [], [], Nat.zero_le _, rfl, Lib.hid ⟨Nat.zero_le _, HD0.out⟩⟩
    case round =>
      clear HD0
      obtain ⟨k, F, Q, hk, rfl, HD⟩ := hrel
      by_cases hlt : k < len
      · skip
        obtain ⟨b, o, rfl, hbl, hok, hc⟩ := HO.out.one k hlt
        obtain ⟨c0, c1, c2⟩ := hc wr HD.out.2.bel
        have HLT := Lib.hid hlt
        have hltI : (k : Int) < (len : Int) := by omega
        have HQ := Lib.hid (show Q.length ≤ k ∧ Q.length ≤ 200 from ⟨HD.out.1, by have := HD.out.1; omega⟩)
        clear hc hbl hlt
        generalize O k = op at c0 c1 c2 hok
        obtain ⟨kind, opn, la, ln, cp, z⟩ := op
        obtain ⟨hzl, hsrc, hn1, hn2⟩ := hok
        dsimp only at c0 c1 c2 hzl hsrc hn1 hn2
        subst hzl
        have HSRC := Lib.hid hsrc
        clear hsrc
        have HST := Lib.hid (store_opd wr #[.int .i64 0, .int .i64 0, .slice none 0 0] rfl kind opn la z.length cp)
        have HD1 := Lib.hid (HD.out.2.boxOp (kind := kind) (n := opn) (la := la) (ln := z.length) (cp := cp))
        have HIV := Lib.hid HD.out.2.inv
        clear HD
        by_cases h60 : z.length ≤ 60
        · have hn60 : ¬ (60 < (z.length : Int)) := by omega
          have HZ := Lib.hid h60
          go_upto_block 2 with (refine wpList_store_run rfl 34 _ _ rfl wr.heap.size _ _ rfl rfl HST.out ?_)
          clear c0 c1 c2 HST HO
          generalize wr.heap.size = ob at HD1 ⊢
          generalize wr.alloc (.cells #[.int .i64 kind, .int .i64 opn, .slice la z.length cp] 34) = W at HD1 ⊢
          go_cut [9, 10] (fun u v wc => ∃ (F' : List Obs) (Q' A : Obs), Hid (Q'.length ≤ k + 1 ∧ A.length ≤ 10000 ∧ PB w d r N F' Q' F' Q' [rO u A, rO v A] wc))
          case first =>
            obtain ⟨c0, c1, c2⟩ := HD1.out.op (List.mem_singleton.2 rfl)
            by_cases hk0 : kind = 0
            · as_aux_lemma =>
                subst hk0
                have HK := Lib.hid HD1.out.made0
                have d0 := (HK.out.op (List.mem_cons_of_mem _ (List.mem_singleton.2 rfl))).1
                have d2 := (HK.out.op (List.mem_cons_of_mem _ (List.mem_singleton.2 rfl))).2.2
                have HS := Lib.hid (HSRC.out.later HK.out.bel)
                have HZB := Lib.hid (show ([] : Obs).length + z.length ≤ 100000 by have := HZ.out; simp; omega)
                clear HD1
                go_wp2_with (first
                  | (at_builtin; refine wpList_pbOS rfl _ _ rfl HK.out HZB.out HS.out rfl rfl ?_
                     intro v3 w3 hK3
                     rw [List.nil_append] at hK3
                     have HK3 := Lib.hid hK3
                     obtain ⟨a3, q3, e3⟩ := hK3.len (List.mem_cons_self ..)
                     subst e3
                     have g2 := (hK3.op (List.mem_cons_of_mem _ (List.mem_singleton.2 rfl))).2.2
                     clear hK3 HK HS d0 d2 c0 c1 c2)
                  | fail)
                have L2 := Lib.hid (show ∀ V, V.cell? ⟨ob, 2, none⟩ = some (.slice la z.length cp) → (loadVar 30 ⟨ob, 2, none⟩).run Try.prog V = .ok (.slice la z.length cp) V from fun V hV => run_loadVar_cell (fun _ => by kernel_rfl) hV)
                refine wp_region_lex1 (fun V => V.cell? ⟨ob, 2, none⟩ = some (.slice la z.length cp)) [(0, false), (1, false), (3, false), (4, false), (5, false), (2, true), (6, true), (7, false)] (by kernel_rfl) (by kernel_rfl) rfl (by kernel_rfl) g2 ?_
                intro W0 hW0 hK0
                have HDa := Lib.hid (show PB w d r N F Q F Q [rO (.slice a3 z.length q3) z, rOp ob 0 opn la z.length cp] W0 by rw [hW0]; exact HK3.out.later (Below.refl _ w3).drew)
                clear hW0 hK0 HK3 g2
                refine lexH_yieldE rfl rfl ?_
                apply Exists.intro
                refine ⟨fun W hW => ?_, ?_⟩
                focus (go_simp; exact rfl)
                simp only [List.getElem_toArray, List.getElem_cons_zero, Act.put, List.setIfInBounds_toArray, List.set_cons_zero, List.set_cons_succ]
                refine lexH_yieldE rfl rfl ?_
                apply Exists.intro
                refine ⟨fun W hW => ?_, ?_⟩
                focus (go_simp; exact rfl)
                simp only [List.getElem_toArray, List.getElem_cons_succ, List.getElem_cons_zero, Act.put, List.setIfInBounds_toArray, List.set_cons_zero, List.set_cons_succ]
                refine lexH_yieldE rfl rfl ?_
                apply Exists.intro
                refine ⟨fun W hW => ?_, ?_⟩
                focus (go_simp; exact rfl)
                simp only [List.getElem_toArray, List.getElem_cons_succ, List.getElem_cons_zero, Act.put, List.setIfInBounds_toArray, List.set_cons_zero, List.set_cons_succ]
                refine lexH_yieldE rfl rfl ?_
                apply Exists.intro
                refine ⟨fun W hW => ?_, ?_⟩
                focus (go_simp; exact rfl)
                simp only [List.getElem_toArray, List.getElem_cons_succ, List.getElem_cons_zero, Act.put, List.setIfInBounds_toArray, List.set_cons_zero, List.set_cons_succ]
                refine lexH_load rfl rfl _ _ rfl rfl L2.out ?_
                simp only [List.getElem_toArray, List.getElem_cons_succ, List.getElem_cons_zero, Act.put, List.setIfInBounds_toArray, List.set_cons_zero, List.set_cons_succ]
                refine lexH_call 12 #[.pointer (some ⟨d, 0, none⟩), .slice a3 z.length q3] rfl rfl ?_ ?_
                focus (go_simp; done)
                refine (putP HDa.out (HDa.out.src (List.mem_cons_self ..))).mono ?_
                rintro e w4 ⟨rfl, hD4⟩
                have HDb := Lib.hid hD4
                refine ⟨_, rfl, (hD4.op (List.mem_cons_of_mem _ (List.mem_singleton.2 rfl))).2.2, ?_⟩
                clear hD4 HDa
                simp only [List.getElem_toArray, List.getElem_cons_succ, List.getElem_cons_zero, Act.put, List.setIfInBounds_toArray, List.set_cons_zero, List.set_cons_succ]
                refine lexH_call 13 #[.pointer (some ⟨r, 0, none⟩), .slice la z.length cp] rfl rfl ?_ ?_
                focus (go_simp; done)
                refine (putR HDb.out HSRC.out (by have := HZ.out; omega) HIV.out.2.2.1).mono ?_
                rintro e w5 ⟨rfl, hD5⟩
                have HWS0 := Lib.hid hD5
                refine ⟨_, rfl, (hD5.op (List.mem_cons_of_mem _ (List.mem_singleton.2 rfl))).2.2, ?_⟩
                clear hD5 HDb L2 HSRC HIV HZB
                generalize dpPut N z F = q at *
                obtain ⟨q1, q2⟩ := q
                dsimp only at HWS0
                generalize hzn : z.length = zn at *
                have HWS := Lib.hid (And.intro hzn HWS0.out)
                clear HWS0 hzn
                simp only [List.getElem_toArray, List.getElem_cons_succ, List.getElem_cons_zero, Act.put, List.setIfInBounds_toArray, List.set_cons_zero, List.set_cons_succ]
                refine lexH_yieldE rfl rfl ?_
                apply Exists.intro
                refine ⟨fun W hW => ?_, ?_⟩
                focus (go_simp; exact rfl)
                simp only [List.getElem_toArray, List.getElem_cons_succ, List.getElem_cons_zero, Act.put, List.setIfInBounds_toArray, List.set_cons_zero, List.set_cons_succ]
                refine lexH_nil ?_
                go_wp2_with (fail)
                go_loopw [65] (fun i wz => ∃ (j : Nat) (B : Obs), j ≤ zn ∧ i = .int .i64 j ∧ Hid (B.length = zn ∧ PB w d r N q2 Q q2 Q (rO (.slice a3 zn q3) B :: [rOp ob 0 opn la zn cp]) wz)) (fun i _ => zn - (intOf i).toNat)
                case atStart => exact ⟨0, _, Nat.zero_le _, rfl, HWS⟩
                case round =>
                  clear HWS
                  obtain ⟨j, B, hj, rfl, HWS⟩ := hrel
                  by_cases hjl : j < zn
                  · have hjI : (j : Int) < (zn : Int) := by omega
                    have HJ := Lib.hid hjl
                    have HBL := Lib.hid HWS.out.1
                    obtain ⟨g, gc, z0, hgv, cz0, fz0, hset⟩ := HWS.out.2.setO (i := j) (s := 0) (by rw [HBL.out]; exact hjl) (by decide)
                    rw [HBL.out] at hgv
                    injection hgv with hgv _ hgc
                    subst hgv
                    subst hgc
                    have HSET := Lib.hid hset
                    rw [Nat.add_zero] at cz0 fz0
                    clear hset hjl HWS
                    go_wp2_with (fail)
                    go_roundw
                    case rel =>
                      obtain ⟨B2, hB2, hP⟩ := HSET.out _
                      exact ⟨j + 1, B2, HJ.out, by go_num, Lib.hid ⟨hB2.trans HBL.out, hP⟩⟩
                    case measure => have := HJ.out; simp [intOf]; omega
                  · obtain rfl : zn = j := by omega
                    have HDz := Lib.hid HWS.out.2.drop.drop.nilO.nilO
                    clear HWS
                    go_wp2_with (fail)
                    go_meet
                    exact ⟨q2, Q, [], Lib.hid ⟨by have := HQ.out; omega, Nat.zero_le _, HDz.out⟩⟩
            · by_cases hk1 : kind = 1
              · as_aux_lemma =>
                  subst hk1
                  clear c1 c2 HSRC
                  go_wp2_with (fail)
                  refine (getP HD1.out).mono ?_
                  rintro e w3 ⟨v3, rfl, h3⟩
                  have HD3 := Lib.hid h3
                  clear h3 HD1 c0
                  go_wp2_with (fail)
                  refine (getR HD3.out HIV.out.2.2.1).mono ?_
                  rintro e w4 ⟨v4, rfl, h4⟩
                  have HD4 := Lib.hid h4
                  have HL := Lib.hid (show (dpGet F).2.1.length ≤ 10000 by have := dpGet_len F N HIV.out.2.2.2; have := HIV.out.2.1; omega)
                  clear h4 HD3 HIV
                  generalize dpGet F = q at *
                  obtain ⟨q1, q2, q3⟩ := q
                  dsimp only at HD4 HL
                  cases q1
                  all_goals
                    go_wp2_with (fail)
                    go_meet
                    exact ⟨q3, Q, q2, Lib.hid ⟨by have := HQ.out; omega, HL.out, (HD4.out.perm (List.reverse_perm _).symm).drop⟩⟩
              · by_cases hk2 : kind = 2
                · as_aux_lemma =>
                    subst hk2
                    by_cases hz : 0 < z.length
                    · have hzI : (0 : Int) < (z.length : Int) := by omega
                      obtain ⟨lb, lo, lc, e1, hat⟩ := HSRC.out.at hz
                      injection e1 with e1 _ e2
                      subst e1
                      subst e2
                      simp only [Nat.zero_mul, Nat.add_zero] at hat
                      generalize z[0] = q at hat
                      obtain ⟨x, y⟩ := q
                      dsimp only at hat
                      obtain ⟨g0, g1⟩ := hat W HD1.out.bel
                      have HAT := Lib.hid hat
                      clear hat hz HSRC
                      generalize z.length = zn at *
                      go_wp2_with (fail)
                      refine (queueP HD1.out x y (by have := HQ.out; omega)).mono ?_
                      rintro e w3 ⟨rfl, h3⟩
                      have HD3 := Lib.hid h3
                      clear h3 HD1 c0 c1 c2 g0 g1
                      obtain ⟨X, hX, vF, vQ, G, eG, hK⟩ := HD3.out
                      obtain ⟨aQ, cQ, eQ⟩ := FK.lenO hK.third
                      subst eQ
                      have HX := Lib.hid hX
                      have HG := Lib.hid eG
                      have HS := Lib.hid (show QS r ob lb lo x y (.slice aQ Q.length cQ) (.slice (some ⟨lb, lo, none⟩) zn cp) w3 from ⟨FK.cell hK (j := 2) rfl, (HD3.out.op (List.mem_singleton.2 rfl)).2.2, (HAT.out w3 HD3.out.bel).1, (HAT.out w3 HD3.out.bel).2⟩)
                      have HK := Lib.hid hK
                      clear hX eG hK HD3
                      have L1 := Lib.hid (show ∀ V, QS r ob lb lo x y (.slice aQ Q.length cQ) (.slice (some ⟨lb, lo, none⟩) zn cp) V → (loadVar 30 ⟨r, 2, none⟩).run Try.prog V = .ok (.slice aQ Q.length cQ) V from fun V hV => run_loadVar_cell (fun _ => by kernel_rfl) hV.1)
                      have L2 := Lib.hid (show ∀ V, QS r ob lb lo x y (.slice aQ Q.length cQ) (.slice (some ⟨lb, lo, none⟩) zn cp) V → (loadVar 30 ⟨ob, 2, none⟩).run Try.prog V = .ok (.slice (some ⟨lb, lo, none⟩) zn cp) V from fun V hV => run_loadVar_cell (fun _ => by kernel_rfl) hV.2.1)
                      have L3 := Lib.hid (show ∀ V, QS r ob lb lo x y (.slice aQ Q.length cQ) (.slice (some ⟨lb, lo, none⟩) zn cp) V → (loadVar 38 ⟨lb, lo, none⟩).run Try.prog V = .ok (.agg #[.int .i64 x, .int .i64 y]) V from fun V hV => load_obj hV.2.2.1 hV.2.2.2)
                      go_wp2_with (fail)
                      refine wp_region_lexF (QS r ob lb lo x y (.slice aQ Q.length cQ) (.slice (some ⟨lb, lo, none⟩) zn cp)) [(0, false), (1, false), (2, false), (3, false), (4, false), (5, false), (6, false), (7, false), (8, false), (9, true), (10, true), (11, false), (12, false)] 13 (by kernel_rfl) (by kernel_rfl) rfl (by kernel_rfl) HS.out ?_
                      intro W0 hW0 hK0
                      have HK0 := Lib.hid (show FK w X (dRows r N vF (.slice aQ Q.length cQ) G Q [rOp ob 2 opn (some ⟨lb, lo, none⟩) zn cp]) W0 by rw [hW0]; exact HK.out.later (Below.refl _ w3).drew)
                      clear hW0 hK0 HS HK
                      refine lexH_yieldE rfl rfl ?_
                      apply Exists.intro
                      refine ⟨fun W hW => ?_, ?_⟩
                      focus (go_simp; exact rfl)
                      simp only [List.getElem_toArray, List.getElem_cons_zero, Act.put, List.setIfInBounds_toArray, List.set_cons_zero, List.set_cons_succ]
                      refine lexH_yieldE rfl rfl ?_
                      apply Exists.intro
                      refine ⟨fun W hW => ?_, ?_⟩
                      focus (go_simp; exact rfl)
                      simp only [List.getElem_toArray, List.getElem_cons_succ, List.getElem_cons_zero, Act.put, List.setIfInBounds_toArray, List.set_cons_zero, List.set_cons_succ]
                      refine lexH_yieldE rfl rfl ?_
                      apply Exists.intro
                      refine ⟨fun W hW => ?_, ?_⟩
                      focus (go_simp; exact rfl)
                      simp only [List.getElem_toArray, List.getElem_cons_succ, List.getElem_cons_zero, Act.put, List.setIfInBounds_toArray, List.set_cons_zero, List.set_cons_succ]
                      refine lexH_yieldE rfl rfl ?_
                      apply Exists.intro
                      refine ⟨fun W hW => ?_, ?_⟩
                      focus (go_simp; exact rfl)
                      simp only [List.getElem_toArray, List.getElem_cons_succ, List.getElem_cons_zero, Act.put, List.setIfInBounds_toArray, List.set_cons_zero, List.set_cons_succ]
                      refine lexH_load rfl rfl _ _ rfl rfl L1.out ?_
                      simp only [List.getElem_toArray, List.getElem_cons_succ, List.getElem_cons_zero, Act.put, List.setIfInBounds_toArray, List.set_cons_zero, List.set_cons_succ]
                      refine lexH_yieldE rfl rfl ?_
                      apply Exists.intro
                      refine ⟨fun W hW => ?_, ?_⟩
                      focus (go_simp; exact rfl)
                      simp only [List.getElem_toArray, List.getElem_cons_succ, List.getElem_cons_zero, Act.put, List.setIfInBounds_toArray, List.set_cons_zero, List.set_cons_succ]
                      refine lexH_load rfl rfl _ _ rfl rfl L2.out ?_
                      simp only [List.getElem_toArray, List.getElem_cons_succ, List.getElem_cons_zero, Act.put, List.setIfInBounds_toArray, List.set_cons_zero, List.set_cons_succ]
                      refine lexH_yieldE rfl rfl ?_
                      apply Exists.intro
                      refine ⟨fun W hW => ?_, ?_⟩
                      focus (go_simp; exact rfl)
                      simp only [List.getElem_toArray, List.getElem_cons_succ, List.getElem_cons_zero, Act.put, List.setIfInBounds_toArray, List.set_cons_zero, List.set_cons_succ]
                      refine lexH_load rfl rfl _ _ rfl rfl L3.out ?_
                      simp only [List.getElem_toArray, List.getElem_cons_succ, List.getElem_cons_zero, Act.put, List.setIfInBounds_toArray, List.set_cons_zero, List.set_cons_succ]
                      refine lexH_eff rfl rfl ?_
                      unfold Oper.wp
                      go_simp
                      have HK1 := Lib.hid (HK0.out.later ((Below.refl _ _).alloc (Nat.le_refl _) (.cells #[.int .i64 x, .int .i64 y] 38)))
                      have HS1 := Lib.hid (QS.of HK1.out HAT.out)
                      have HR1 := Lib.hid (obj_row W0 x y)
                      refine ⟨HS1.out, ?_⟩
                      generalize W0.alloc (.cells #[.int .i64 x, .int .i64 y] 38) = W1 at HK1 HS1 HR1 ⊢
                      generalize W0.heap.size = cX at HR1 ⊢
                      have HO1 := Lib.hid (show W1.ownsRow 0 TO 2 (.slice aQ Q.length cQ) Q.length (recV encO Q) from HK1.out.third.row (rO (.slice aQ Q.length cQ) Q) (List.mem_cons_self ..))
                      clear HK0 HS1
                      refine lexH_eff rfl rfl ?_
                      refine wp_append_whrN _ _ _ 30 rfl 0 38 i0 _ 2 16 Try.underlying30 hi hz0 hz1 hz2 rfl (by decide) (.slice aQ Q.length cQ) _ _ HO1.out (Nat.zero_le _) ⟨cX, 0, none⟩ 1 (encO (x, y)) rfl rfl rfl (obj_src HR1.out) (encO_one _) (by have := HQ.out; unfold maxLen; omega) (by have := HQ.out; omega) ?_
                      intro v2 W2 hown2 ho2 hwh
                      have hown9 : W2.ownsRow 0 TO 2 v2 (Q ++ [(x, y)]).length (recV encO (Q ++ [(x, y)])) := by
                        rw [List.length_append, recV_append, recV_single]
                        exact hown2
                      obtain ⟨hR9, c9, f9⟩ := FK.que HG.out HK1.out ho2 hown9 hwh
                      have HS2 := Lib.hid (QS.of2 HK1.out HAT.out ho2 hown9 hwh)
                      refine ⟨HS2.out, ?_⟩
                      obtain ⟨a9, q9, hv9⟩ := owns_len hown9
                      have HF := Lib.hid (show PB w d r N F (Q ++ [(x, y)]) F (Q ++ [(x, y)]) [rOp ob 2 opn (some ⟨lb, lo, none⟩) zn cp] (W2.setCell ⟨r, 2, none⟩ v2) from ⟨X, HX.out, hR9⟩)
                      generalize hl9 : (Q ++ [(x, y)]).length = n9 at hv9
                      have HL9 := Lib.hid hl9
                      subst hv9
                      clear hown2 ho2 hwh hown9 hR9 HS2 HO1 HR1 HK1 L1 L2 L3 hl9 HG HX
                      simp only [List.getElem_toArray, List.getElem_cons_succ, List.getElem_cons_zero, Act.put, List.setIfInBounds_toArray, List.set_cons_zero, List.set_cons_succ]
                      refine lexH_yieldE rfl rfl ?_
                      apply Exists.intro
                      refine ⟨fun W hW => ?_, ?_⟩
                      focus (go_simp; exact rfl)
                      simp only [List.getElem_toArray, List.getElem_cons_succ, List.getElem_cons_zero, Act.put, List.setIfInBounds_toArray, List.set_cons_zero, List.set_cons_succ]
                      refine lexH_yieldE rfl rfl ?_
                      apply Exists.intro
                      refine ⟨fun W hW => ?_, ?_⟩
                      focus (go_simp; exact rfl)
                      simp only [List.getElem_toArray, List.getElem_cons_succ, List.getElem_cons_zero, Act.put, List.setIfInBounds_toArray, List.set_cons_zero, List.set_cons_succ]
                      refine lexH_last rfl rfl ?_
                      unfold Oper.wp
                      go_simp
                      go_wp2_with (fail)
                      go_meet
                      exact ⟨F, Q ++ [(x, y)], [], Lib.hid ⟨by have := HQ.out; rw [List.length_append, List.length_singleton]; omega, Nat.zero_le _, HF.out.drop.nilO.nilO⟩⟩
                    · have hzI : ¬ ((0 : Int) < (z.length : Int)) := by omega
                      clear hz HSRC
                      generalize z.length = zn at *
                      go_wp2_with (fail)
                      go_meet
                      exact ⟨F, Q, [], Lib.hid ⟨by have := HQ.out; omega, Nat.zero_le _, HD1.out.drop.nilO.nilO⟩⟩
                · by_cases hk3 : kind = 3
                  · as_aux_lemma =>
                      subst hk3
                      clear c2 HSRC
                      have L1 := Lib.hid (show ∀ V, V.cell? ⟨ob, 1, none⟩ = some (.int .i64 opn) → (loadVar 3 ⟨ob, 1, none⟩).run Try.prog V = .ok (.int .i64 opn) V from fun V hV => run_loadVar_cell (fun _ => by kernel_rfl) hV)
                      go_wp2_with (fail)
                      refine wp_region_lex1 (fun V => V.cell? ⟨ob, 1, none⟩ = some (.int .i64 opn)) [(0, false), (1, false), (2, false), (4, false), (5, false), (6, false), (3, true), (7, true), (8, false), (9, false)] (by kernel_rfl) (by kernel_rfl) rfl (by kernel_rfl) c1 ?_
                      intro W0 hW0 hK0
                      have HDa := Lib.hid (show PB w d r N F Q F Q [rOp ob 3 opn la z.length cp] W0 by rw [hW0]; exact HD1.out.later (Below.refl _ W).drew)
                      clear hW0 hK0 HD1 c0 c1
                      refine lexH_yieldE rfl rfl ?_
                      apply Exists.intro
                      refine ⟨fun W hW => ?_, ?_⟩
                      focus (go_simp; exact rfl)
                      simp only [List.getElem_toArray, List.getElem_cons_zero, Act.put, List.setIfInBounds_toArray, List.set_cons_zero, List.set_cons_succ]
                      refine lexH_yieldE rfl rfl ?_
                      apply Exists.intro
                      refine ⟨fun W hW => ?_, ?_⟩
                      focus (go_simp; exact rfl)
                      simp only [List.getElem_toArray, List.getElem_cons_succ, List.getElem_cons_zero, Act.put, List.setIfInBounds_toArray, List.set_cons_zero, List.set_cons_succ]
                      refine lexH_load rfl rfl _ _ rfl rfl L1.out ?_
                      simp only [List.getElem_toArray, List.getElem_cons_succ, List.getElem_cons_zero, Act.put, List.setIfInBounds_toArray, List.set_cons_zero, List.set_cons_succ]
                      refine lexH_yieldE rfl rfl ?_
                      apply Exists.intro
                      refine ⟨fun W hW => ?_, ?_⟩
                      focus (go_simp; exact rfl)
                      simp only [List.getElem_toArray, List.getElem_cons_succ, List.getElem_cons_zero, Act.put, List.setIfInBounds_toArray, List.set_cons_zero, List.set_cons_succ]
                      refine lexH_yieldE rfl rfl ?_
                      apply Exists.intro
                      refine ⟨fun W hW => ?_, ?_⟩
                      focus (go_simp; exact rfl)
                      simp only [List.getElem_toArray, List.getElem_cons_succ, List.getElem_cons_zero, Act.put, List.setIfInBounds_toArray, List.set_cons_zero, List.set_cons_succ]
                      refine lexH_load rfl rfl _ _ rfl rfl L1.out ?_
                      simp only [List.getElem_toArray, List.getElem_cons_succ, List.getElem_cons_zero, Act.put, List.setIfInBounds_toArray, List.set_cons_zero, List.set_cons_succ]
                      refine lexH_call 17 #[.pointer (some ⟨d, 0, none⟩), .int .i64 opn] rfl rfl ?_ ?_
                      focus (go_simp; done)
                      refine (drainP HDa.out opn (by have := HQ.out; omega)).mono ?_
                      rintro e w4 ⟨v4, rfl, hD4⟩
                      have HDb := Lib.hid hD4
                      refine ⟨_, rfl, (hD4.op (List.mem_cons_of_mem _ (List.mem_singleton.2 rfl))).2.1, ?_⟩
                      clear hD4 HDa
                      simp only [List.getElem_toArray, List.getElem_cons_succ, List.getElem_cons_zero, Act.put, List.setIfInBounds_toArray, List.set_cons_zero, List.set_cons_succ]
                      refine lexH_call 18 #[.pointer (some ⟨r, 0, none⟩), .int .i64 opn] rfl rfl ?_ ?_
                      focus (go_simp; done)
                      refine (drainR HDb.out opn (by have := HQ.out; omega)).mono ?_
                      rintro e w5 ⟨v5, rfl, hD5⟩
                      have HDc := Lib.hid hD5
                      refine ⟨_, rfl, (hD5.op (List.mem_cons_of_mem _ (List.mem_cons_of_mem _ (List.mem_singleton.2 rfl)))).2.1, ?_⟩
                      clear hD5 HDb L1
                      simp only [List.getElem_toArray, List.getElem_cons_succ, List.getElem_cons_zero, Act.put, List.setIfInBounds_toArray, List.set_cons_zero, List.set_cons_succ]
                      refine lexH_yieldE rfl rfl ?_
                      apply Exists.intro
                      refine ⟨fun W hW => ?_, ?_⟩
                      focus (go_simp; exact rfl)
                      simp only [List.getElem_toArray, List.getElem_cons_succ, List.getElem_cons_zero, Act.put, List.setIfInBounds_toArray, List.set_cons_zero, List.set_cons_succ]
                      refine lexH_yieldE rfl rfl ?_
                      apply Exists.intro
                      refine ⟨fun W hW => ?_, ?_⟩
                      focus (go_simp; exact rfl)
                      simp only [List.getElem_toArray, List.getElem_cons_succ, List.getElem_cons_zero, Act.put, List.setIfInBounds_toArray, List.set_cons_zero, List.set_cons_succ]
                      refine lexH_nil ?_
                      go_wp2_with (fail)
                      go_meet
                      exact ⟨F, Q.drop (dpK opn Q), Q.take (dpK opn Q), Lib.hid ⟨by have := HQ.out; rw [List.length_drop]; omega, by have := HQ.out; rw [List.length_take]; omega, (HDc.out.perm (List.reverse_perm _).symm).drop⟩⟩
                  · by_cases hk4 : kind = 4
                    · as_aux_lemma =>
                        subst hk4
                        clear c1 c2 HSRC
                        have HAL := Lib.hid (show (dpAll F Q).length ≤ 10000 by
                          have h1 := all_len F Q HIV.out.2.2.2
                          have h2 := HIV.out.2.2.1
                          have h3 : F.length * N ≤ 64 * 32 := Nat.mul_le_mul h2 HIV.out.2.1
                          have := HQ.out
                          omega)
                        go_wp2_with (fail)
                        refine (flushP HD1.out (by have := HQ.out; omega)).mono ?_
                        rintro e w3 ⟨v3, rfl, h3⟩
                        have HD3 := Lib.hid h3
                        clear h3 HD1 c0
                        go_wp2_with (fail)
                        refine (allR HD3.out HAL.out (by have := HIV.out.2.2.1; omega)).mono ?_
                        rintro e w4 ⟨v4, rfl, h4, _⟩
                        have HD4 := Lib.hid h4
                        obtain ⟨k1, k1c, g1⟩ := h4.c1
                        obtain ⟨k2, k2c, g2⟩ := h4.c2
                        have f1 := h4.fz (j := 1) (by decide)
                        have f2 := h4.fz (j := 2) (by decide)
                        have HD5 := Lib.hid h4.none2
                        obtain ⟨b3, b3c, eb3⟩ := h4.len (v := v3) (A := dpAll F Q) (List.mem_cons_of_mem _ (List.mem_cons_self ..))
                        obtain ⟨b4, b4c, eb4⟩ := h4.len (v := v4) (A := dpAll F Q) (List.mem_cons_self ..)
                        clear h4 HD3 HD4
                        generalize dpAll F Q = A at *
                        generalize A.length = al at eb3 eb4
                        subst eb3
                        subst eb4
                        go_wp2_with (fail)
                        go_meet
                        exact ⟨[], [], A, Lib.hid ⟨Nat.zero_le _, HAL.out, (HD5.out.perm (List.reverse_perm _).symm).drop⟩⟩
                    · as_aux_lemma =>
                        have e1 : (kind == 0) = false := by simpa using hk0
                        have e2 : (kind == 1) = false := by simpa using hk1
                        have e3 : (kind == 2) = false := by simpa using hk2
                        have e4 : (kind == 3) = false := by simpa using hk3
                        have e5 : (kind == 4) = false := by simpa using hk4
                        clear hk0 hk1 hk2 hk3 hk4
                        go_wp2_with (fail)
                        go_meet
                        exact ⟨F, Q, [], Lib.hid ⟨by have := HQ.out; omega, Nat.zero_le _, HD1.out.drop.nilO.nilO⟩⟩
          case rest =>
            obtain ⟨F', Q', A, HC⟩ := hcut
            have HAL := Lib.hid HC.out.2.1
            have HQ2 := Lib.hid (show Q'.length ≤ k + 1 ∧ Q'.length ≤ 201 from ⟨HC.out.1, by have := HC.out.1; have := HLT.out; omega⟩)
            have HP := Lib.hid HC.out.2.2
            clear HC HD1 HSRC HIV HZ HQ
            obtain ⟨ua, uc, eu⟩ := HP.out.len (v := u9) (A := A) (List.mem_cons_self ..)
            obtain ⟨va, vc, ev⟩ := HP.out.len (v := u10) (A := A) (List.mem_cons_of_mem _ (List.mem_cons_self ..))
            subst eu
            subst ev
            obtain ⟨an, han⟩ : ∃ an, A.length = an := ⟨_, rfl⟩
            have HAN := Lib.hid han
            rw [han] at HP HAL ⊢
            have hal := HAL.out
            have HDL := Lib.hid (show (dpAll F' Q').length ≤ 10000 by
              have h0 := HP.out.inv
              have h1 := all_len F' Q' h0.2.2.2
              have h2 := h0.2.2.1
              have h3 : F'.length * N ≤ 64 * 32 := Nat.mul_le_mul h2 h0.2.1
              have := HQ2.out
              omega)
            have HF64 := Lib.hid (show F'.length ≤ 64 from HP.out.inv.2.2.1)
            clear han
            go_wp2_with (fail)
            refine (allP HP.out (by have := HQ2.out; omega)).mono ?_
            rintro e w5 ⟨v5, rfl, h5⟩
            obtain ⟨ta, tc, et⟩ := h5.len (v := v5) (A := dpAll F' Q') (List.mem_cons_self ..)
            obtain ⟨fa, fc, g1⟩ := h5.c1
            obtain ⟨qa, qc, g2⟩ := h5.c2
            have HP5 := Lib.hid h5
            clear h5 HP
            obtain ⟨tn, htn⟩ : ∃ tn, (dpAll F' Q').length = tn := ⟨_, rfl⟩
            have HTN := Lib.hid htn
            rw [htn] at et
            subst et
            have HTL := Lib.hid (show tn ≤ 10000 by rw [← htn]; exact HDL.out)
            have L1 := Lib.hid (show ∀ V, Kept w5.heap.size w5 V → (loadVar 29 ⟨r, 1, none⟩).run Try.prog V = .ok (.slice fa F'.length fc) V from fun V hV => run_loadVar_cell (fun _ => by kernel_rfl) ((hV.below.cell (p := ⟨r, 1, none⟩) (World.block_lt_of_cell? _ _ g1)).trans g1))
            have L2 := Lib.hid (show ∀ V, Kept w5.heap.size w5 V → (loadVar 30 ⟨r, 2, none⟩).run Try.prog V = .ok (.slice qa Q'.length qc) V from fun V hV => run_loadVar_cell (fun _ => by kernel_rfl) ((hV.below.cell (p := ⟨r, 2, none⟩) (World.block_lt_of_cell? _ _ g2)).trans g2))
            clear g1 g2 htn
            go_wp2_with (fail)
            refine wp_region_lex1 (Kept w5.heap.size w5) [(0, false), (1, false), (2, true), (3, false), (4, false), (5, false), (6, false), (7, true), (8, true), (9, false), (10, false), (11, false), (12, false), (14, false), (15, false), (16, false), (17, false), (18, false), (13, true), (19, false), (20, false), (21, false), (22, false), (24, false), (25, false), (26, false), (27, false), (28, false), (23, true), (29, false), (30, false)] (by kernel_rfl) (by kernel_rfl) rfl (by kernel_rfl) (Below.refl _ w5).drew ?_
            intro W0 hW0 hK0
            clear hW0
            have HP6 := Lib.hid (HP5.out.later hK0.below)
            have HK6 := Lib.hid hK0
            clear HP5 hK0
            refine lexH_yieldE rfl rfl ?_
            apply Exists.intro
            refine ⟨fun W hW => ?_, ?_⟩
            focus (go_simp; exact rfl)
            simp only [List.getElem_toArray, List.getElem_cons_zero, Act.put, List.setIfInBounds_toArray, List.set_cons_zero, List.set_cons_succ]
            refine lexH_yieldE rfl rfl ?_
            apply Exists.intro
            refine ⟨fun W hW => ?_, ?_⟩
            focus (go_simp; exact rfl)
            simp only [List.getElem_toArray, List.getElem_cons_succ, List.getElem_cons_zero, Act.put, List.setIfInBounds_toArray, List.set_cons_zero, List.set_cons_succ]
            refine lexH_call 22 #[.slice ua an uc, .slice va an vc] rfl rfl ?_ ?_
            focus (go_simp; done)
            refine (same_big (HP6.out.src (A := A) (List.mem_cons_of_mem _ (List.mem_cons_self ..))) (HP6.out.src (A := A) (List.mem_cons_of_mem _ (List.mem_cons_of_mem _ (List.mem_cons_self ..)))) (by rw [HAN.out]; omega)).mono ?_
            rintro e w6 ⟨rfl, hb⟩
            have HP7 := Lib.hid (HP6.out.later hb)
            have HK7 := Lib.hid (HK6.out.call (Nat.le_refl _) hb)
            refine ⟨_, rfl, HK7.out, ?_⟩
            clear hb HP6 HK6
            simp only [List.getElem_toArray, List.getElem_cons_succ, List.getElem_cons_zero, Act.put, List.setIfInBounds_toArray, List.set_cons_zero, List.set_cons_succ]
            refine lexH_yieldE rfl rfl ?_
            apply Exists.intro
            refine ⟨fun W hW => ?_, ?_⟩
            focus (go_simp; exact rfl)
            simp only [List.getElem_toArray, List.getElem_cons_succ, List.getElem_cons_zero, Act.put, List.setIfInBounds_toArray, List.set_cons_zero, List.set_cons_succ]
            refine lexH_yieldE rfl rfl ?_
            apply Exists.intro
            refine ⟨fun W hW => ?_, ?_⟩
            focus (go_simp; exact rfl)
            simp only [List.getElem_toArray, List.getElem_cons_succ, List.getElem_cons_zero, Act.put, List.setIfInBounds_toArray, List.set_cons_zero, List.set_cons_succ]
            refine lexH_yieldE rfl rfl ?_
            apply Exists.intro
            refine ⟨fun W hW => ?_, ?_⟩
            focus (go_simp; exact rfl)
            simp only [List.getElem_toArray, List.getElem_cons_succ, List.getElem_cons_zero, Act.put, List.setIfInBounds_toArray, List.set_cons_zero, List.set_cons_succ]
            refine lexH_yieldE rfl rfl ?_
            apply Exists.intro
            refine ⟨fun W hW => ?_, ?_⟩
            focus (go_simp; exact rfl)
            simp only [List.getElem_toArray, List.getElem_cons_succ, List.getElem_cons_zero, Act.put, List.setIfInBounds_toArray, List.set_cons_zero, List.set_cons_succ]
            refine lexH_call 20 #[.pointer (some ⟨r, 0, none⟩)] rfl rfl ?_ ?_
            focus (go_simp; done)
            refine (allR HP7.out HDL.out (by have := HF64.out; omega)).mono ?_
            rintro e w7 ⟨v7, rfl, h7, hb⟩
            have HP8 := Lib.hid h7
            have HK8 := Lib.hid (HK7.out.call (Nat.le_refl _) hb)
            refine ⟨_, rfl, HK8.out, ?_⟩
            clear h7 hb HP7 HK7
            simp only [List.getElem_toArray, List.getElem_cons_succ, List.getElem_cons_zero, Act.put, List.setIfInBounds_toArray, List.set_cons_zero, List.set_cons_succ]
            refine lexH_call 22 #[.slice ta tn tc, v7] rfl rfl ?_ ?_
            focus (go_simp; done)
            refine (same_big (HP8.out.src (A := dpAll F' Q') (List.mem_cons_of_mem _ (List.mem_cons_self ..))) (HP8.out.src (A := dpAll F' Q') (List.mem_cons_self ..)) (by have := HDL.out; omega)).mono ?_
            rintro e w8 ⟨rfl, hb⟩
            have HP9 := Lib.hid (HP8.out.later hb).drop
            have HK9 := Lib.hid (HK8.out.call (Nat.le_refl _) hb)
            refine ⟨_, rfl, HK9.out, ?_⟩
            clear hb HP8 HK8
            simp only [List.getElem_toArray, List.getElem_cons_succ, List.getElem_cons_zero, Act.put, List.setIfInBounds_toArray, List.set_cons_zero, List.set_cons_succ]
            refine lexH_yieldE rfl rfl ?_
            apply Exists.intro
            refine ⟨fun W hW => ?_, ?_⟩
            focus (go_simp; exact rfl)
            simp only [List.getElem_toArray, List.getElem_cons_succ, List.getElem_cons_zero, Act.put, List.setIfInBounds_toArray, List.set_cons_zero, List.set_cons_succ]
            refine lexH_yieldE rfl rfl ?_
            apply Exists.intro
            refine ⟨fun W hW => ?_, ?_⟩
            focus (go_simp; exact rfl)
            simp only [List.getElem_toArray, List.getElem_cons_succ, List.getElem_cons_zero, Act.put, List.setIfInBounds_toArray, List.set_cons_zero, List.set_cons_succ]
            refine lexH_yieldE rfl rfl ?_
            apply Exists.intro
            refine ⟨fun W hW => ?_, ?_⟩
            focus (go_simp; exact rfl)
            simp only [List.getElem_toArray, List.getElem_cons_succ, List.getElem_cons_zero, Act.put, List.setIfInBounds_toArray, List.set_cons_zero, List.set_cons_succ]
            refine lexH_yieldE rfl rfl ?_
            apply Exists.intro
            refine ⟨fun W hW => ?_, ?_⟩
            focus (go_simp; exact rfl)
            simp only [List.getElem_toArray, List.getElem_cons_succ, List.getElem_cons_zero, Act.put, List.setIfInBounds_toArray, List.set_cons_zero, List.set_cons_succ]
            refine lexH_yieldE rfl rfl ?_
            apply Exists.intro
            refine ⟨fun W hW => ?_, ?_⟩
            focus (go_simp; exact rfl)
            simp only [List.getElem_toArray, List.getElem_cons_succ, List.getElem_cons_zero, Act.put, List.setIfInBounds_toArray, List.set_cons_zero, List.set_cons_succ]
            refine lexH_yieldE rfl rfl ?_
            apply Exists.intro
            refine ⟨fun W hW => ?_, ?_⟩
            focus (go_simp; exact rfl)
            simp only [List.getElem_toArray, List.getElem_cons_succ, List.getElem_cons_zero, Act.put, List.setIfInBounds_toArray, List.set_cons_zero, List.set_cons_succ]
            refine lexH_yieldE rfl rfl ?_
            apply Exists.intro
            refine ⟨fun W hW => ?_, ?_⟩
            focus (go_simp; exact rfl)
            simp only [List.getElem_toArray, List.getElem_cons_succ, List.getElem_cons_zero, Act.put, List.setIfInBounds_toArray, List.set_cons_zero, List.set_cons_succ]
            refine lexH_load rfl rfl _ _ rfl rfl L1.out ?_
            simp only [List.getElem_toArray, List.getElem_cons_succ, List.getElem_cons_zero, Act.put, List.setIfInBounds_toArray, List.set_cons_zero, List.set_cons_succ]
            refine lexH_yieldE rfl rfl ?_
            apply Exists.intro
            refine ⟨fun W hW => ?_, ?_⟩
            focus (go_simp; exact rfl)
            simp only [List.getElem_toArray, List.getElem_cons_succ, List.getElem_cons_zero, Act.put, List.setIfInBounds_toArray, List.set_cons_zero, List.set_cons_succ]
            refine lexH_call 23 #[.pointer (some ⟨d, 0, none⟩)] rfl rfl ?_ ?_
            focus (go_simp; done)
            refine (fullsP HP9.out).mono ?_
            rintro e w9 ⟨rfl, hb⟩
            have HPa := Lib.hid (HP9.out.later hb)
            have HKa := Lib.hid (HK9.out.call (Nat.le_refl _) hb)
            refine ⟨_, rfl, HKa.out, ?_⟩
            clear hb HP9 HK9
            simp only [List.getElem_toArray, List.getElem_cons_succ, List.getElem_cons_zero, Act.put, List.setIfInBounds_toArray, List.set_cons_zero, List.set_cons_succ]
            refine lexH_yieldE rfl rfl ?_
            apply Exists.intro
            refine ⟨fun W hW => ?_, ?_⟩
            focus (go_simp; exact rfl)
            simp only [List.getElem_toArray, List.getElem_cons_succ, List.getElem_cons_zero, Act.put, List.setIfInBounds_toArray, List.set_cons_zero, List.set_cons_succ]
            refine lexH_yieldE rfl rfl ?_
            apply Exists.intro
            refine ⟨fun W hW => ?_, ?_⟩
            focus (go_simp; exact rfl)
            simp only [List.getElem_toArray, List.getElem_cons_succ, List.getElem_cons_zero, Act.put, List.setIfInBounds_toArray, List.set_cons_zero, List.set_cons_succ]
            refine lexH_yieldE rfl rfl ?_
            apply Exists.intro
            refine ⟨fun W hW => ?_, ?_⟩
            focus (go_simp; exact rfl)
            simp only [List.getElem_toArray, List.getElem_cons_succ, List.getElem_cons_zero, Act.put, List.setIfInBounds_toArray, List.set_cons_zero, List.set_cons_succ]
            refine lexH_yieldE rfl rfl ?_
            apply Exists.intro
            refine ⟨fun W hW => ?_, ?_⟩
            focus (go_simp; exact rfl)
            simp only [List.getElem_toArray, List.getElem_cons_succ, List.getElem_cons_zero, Act.put, List.setIfInBounds_toArray, List.set_cons_zero, List.set_cons_succ]
            refine lexH_yieldE rfl rfl ?_
            apply Exists.intro
            refine ⟨fun W hW => ?_, ?_⟩
            focus (go_simp; exact rfl)
            simp only [List.getElem_toArray, List.getElem_cons_succ, List.getElem_cons_zero, Act.put, List.setIfInBounds_toArray, List.set_cons_zero, List.set_cons_succ]
            refine lexH_yieldE rfl rfl ?_
            apply Exists.intro
            refine ⟨fun W hW => ?_, ?_⟩
            focus (go_simp; exact rfl)
            simp only [List.getElem_toArray, List.getElem_cons_succ, List.getElem_cons_zero, Act.put, List.setIfInBounds_toArray, List.set_cons_zero, List.set_cons_succ]
            refine lexH_yieldE rfl rfl ?_
            apply Exists.intro
            refine ⟨fun W hW => ?_, ?_⟩
            focus (go_simp; exact rfl)
            simp only [List.getElem_toArray, List.getElem_cons_succ, List.getElem_cons_zero, Act.put, List.setIfInBounds_toArray, List.set_cons_zero, List.set_cons_succ]
            refine lexH_load rfl rfl _ _ rfl rfl L2.out ?_
            simp only [List.getElem_toArray, List.getElem_cons_succ, List.getElem_cons_zero, Act.put, List.setIfInBounds_toArray, List.set_cons_zero, List.set_cons_succ]
            refine lexH_yieldE rfl rfl ?_
            apply Exists.intro
            refine ⟨fun W hW => ?_, ?_⟩
            focus (go_simp; exact rfl)
            simp only [List.getElem_toArray, List.getElem_cons_succ, List.getElem_cons_zero, Act.put, List.setIfInBounds_toArray, List.set_cons_zero, List.set_cons_succ]
            refine lexH_call 24 #[.pointer (some ⟨d, 0, none⟩)] rfl rfl ?_ ?_
            focus (go_simp; done)
            refine (queuedP HPa.out).mono ?_
            rintro e w10 ⟨rfl, hb⟩
            have HKb := Lib.hid (HKa.out.call (Nat.le_refl _) hb)
            refine ⟨_, rfl, HKb.out, ?_⟩
            have HWS := Lib.hid (And.intro HAN.out (HPa.out.later hb).swap)
            clear hb HPa HKa HKb L1 L2
            simp only [List.getElem_toArray, List.getElem_cons_succ, List.getElem_cons_zero, Act.put, List.setIfInBounds_toArray, List.set_cons_zero, List.set_cons_succ]
            refine lexH_yieldE rfl rfl ?_
            apply Exists.intro
            refine ⟨fun W hW => ?_, ?_⟩
            focus (go_simp; exact rfl)
            simp only [List.getElem_toArray, List.getElem_cons_succ, List.getElem_cons_zero, Act.put, List.setIfInBounds_toArray, List.set_cons_zero, List.set_cons_succ]
            refine lexH_yieldE rfl rfl ?_
            apply Exists.intro
            refine ⟨fun W hW => ?_, ?_⟩
            focus (go_simp; exact rfl)
            simp only [List.getElem_toArray, List.getElem_cons_succ, List.getElem_cons_zero, Act.put, List.setIfInBounds_toArray, List.set_cons_zero, List.set_cons_succ]
            refine lexH_nil ?_
            go_wp2_with (fail)
            go_loopw [174] (fun i wz => ∃ (j : Nat) (B : Obs), j ≤ an ∧ i = .int .i64 j ∧ Hid (B.length = an ∧ PB w d r N F' Q' F' Q' (rO (.slice ua an uc) B :: [rO (.slice ta tn tc) (dpAll F' Q'), rO (.slice va an vc) A]) wz)) (fun i _ => an - (intOf i).toNat)
            case atStart => exact ⟨0, _, Nat.zero_le _, rfl, HWS⟩
            case round =>
              clear HWS
              obtain ⟨j, B, hj, rfl, HWS⟩ := hrel
              by_cases hjl : j < an
              · have hjI : (j : Int) < (an : Int) := by omega
                have HJ := Lib.hid hjl
                have HBL := Lib.hid HWS.out.1
                obtain ⟨g, gc, z0, hgv, cz0, fz0, hset⟩ := HWS.out.2.setO (i := j) (s := 0) (by rw [HBL.out]; exact hjl) (by decide)
                rw [HBL.out] at hgv
                injection hgv with hgv _ hgc
                subst hgv
                subst hgc
                have HSET := Lib.hid hset
                rw [Nat.add_zero] at cz0 fz0
                clear hset hjl HWS
                go_wp2_with (fail)
                go_roundw
                case rel =>
                  obtain ⟨B2, hB2, hP⟩ := HSET.out _
                  exact ⟨j + 1, B2, HJ.out, by go_num, Lib.hid ⟨hB2.trans HBL.out, hP⟩⟩
                case measure => have := HJ.out; simp [intOf]; omega
              · obtain rfl : an = j := by omega
                have HWT := Lib.hid (And.intro HTN.out HWS.out.2.drop)
                clear HWS
                have HWS := HWT
                clear HWT
                have htn8 := HTL.out
                go_wp2_with (fail)
                go_loopw [188] (fun i wz => ∃ (j : Nat) (B : Obs), j ≤ tn ∧ i = .int .i64 j ∧ Hid (B.length = tn ∧ PB w d r N F' Q' F' Q' (rO (.slice ta tn tc) B :: [rO (.slice va an vc) A]) wz)) (fun i _ => tn - (intOf i).toNat)
                case atStart => exact ⟨0, _, Nat.zero_le _, rfl, HWS⟩
                case round =>
                  clear HWS
                  obtain ⟨j, B, hj, rfl, HWS⟩ := hrel
                  by_cases hjl : j < tn
                  · have hjI : (j : Int) < (tn : Int) := by omega
                    have HJ := Lib.hid hjl
                    have HBL := Lib.hid HWS.out.1
                    obtain ⟨g, gc, z0, hgv, cz0, fz0, hset⟩ := HWS.out.2.setO (i := j) (s := 1) (by rw [HBL.out]; exact hjl) (by decide)
                    rw [HBL.out] at hgv
                    injection hgv with hgv _ hgc
                    subst hgv
                    subst hgc
                    have HSET := Lib.hid hset
                    skip
                    clear hset hjl HWS
                    go_wp2_with (fail)
                    go_roundw
                    case rel =>
                      obtain ⟨B2, hB2, hP⟩ := HSET.out _
                      exact ⟨j + 1, B2, HJ.out, by go_num, Lib.hid ⟨hB2.trans HBL.out, hP⟩⟩
                    case measure => have := HJ.out; simp [intOf]; omega
                  · obtain rfl : tn = j := by omega
                    have HDz := Lib.hid HWS.out.2.drop.drop
                    clear HWS
                    go_wp2_with (fail)
                    go_roundw
                    case rel => exact ⟨k + 1, F', Q', HLT.out, by go_num, Lib.hid ⟨HQ2.out.1, HDz.out⟩⟩
                    case measure => have := HLT.out; simp [intOf]; omega
        · have hn60 : 60 < (z.length : Int) := by omega
          go_wp2_with (refine wpList_store_run rfl 34 _ _ rfl wr.heap.size _ _ rfl rfl HST.out ?_)
          refine (known_any dep_ok _).mono ?_
          rintro e w5 ⟨rfl, hb⟩
          have HB := Lib.hid (HD1.out.bel.trans (hb.mono HD1.out.le))
          clear hb
          go_wp2_with (fail)
          go_ret
          exact ⟨rfl, HB.out⟩
      · obtain rfl : k = len := by omega
        clear hlt hk HO
        have HDL := Lib.hid (show (dpAll F Q).length ≤ 10000 ∧ F.length ≤ 64 by
          have h0 := HD.out.2.inv
          have h1 := all_len F Q h0.2.2.2
          have h2 := h0.2.2.1
          have h3 : F.length * N ≤ 64 * 32 := Nat.mul_le_mul h2 h0.2.1
          have := HD.out.1
          omega)
        go_wp2_with (fail)
        refine (allP HD.out.2 (by have := HD.out.1; omega)).mono ?_
        rintro e w5 ⟨v5, rfl, h5⟩
        have HD5 := Lib.hid h5
        clear h5 HD
        go_wp2_with (fail)
        refine (allR HD5.out HDL.out.1 (by have := HDL.out.2; omega)).mono ?_
        rintro e w6 ⟨v6, rfl, h6, _⟩
        have HD6 := Lib.hid h6
        clear h6 HD5
        go_wp2_with (fail)
        refine (same_big (HD6.out.src (A := dpAll F Q) (List.mem_cons_of_mem _ (List.mem_cons_self ..))) (HD6.out.src (A := dpAll F Q) (List.mem_cons_self ..)) (by have := HDL.out.1; omega)).mono ?_
        rintro e w7 ⟨rfl, hb⟩
        have HD7 := Lib.hid (HD6.out.later hb)
        clear hb HD6
        go_wp2_with (fail)
        refine (known_any dep_ok _).mono ?_
        rintro e w8 ⟨rfl, hb⟩
        have HB := Lib.hid (HD7.out.bel.trans (hb.mono HD7.out.le))
        clear hb
        go_wp2_with (fail)
        go_ret
        exact ⟨rfl, HB.out⟩
  · have hlenI : 200 < (len : Int) := by omega
    go_enter Try.func3, Try.ntmps3
    go_wp2_with (fail)
    refine (known_any dep_ok _).mono ?_
    rintro e w5 ⟨rfl, hb⟩
    have HB := Lib.hid hb
    clear hb
    go_wp2_with (fail)
    go_ret
    exact ⟨rfl, HB.out⟩
end Go.Proofs.Ytagnipkannogoaa
