/-
  The walk of DevicePlays: it returns true, and below the old heap nothing has turned.
-/
import Derived.Test.YtadjkanjlkammaaDvBoth
import Derived.Deep.DeepCutAuto
import Derived.Deep.CutBlock
namespace Go.Proofs.Ytadjkanjlkammaa
open Go.RowKit Go

theorem infoOp : (Try.prog.info? 34).map (·.size) = some 5 := by kernel_rfl
def opV (o : Op4) (j : Nat) : Value := o.cells.getD j undef
def updX (X : Nat → UInt8) (i : Nat) (v : UInt8) (j : Nat) : UInt8 := if j = i then v else X j
theorem updV_byV (X : Nat → UInt8) (i : Nat) (v : UInt8) (j : Nat) : updV (byV X) i (.int .u8 v.toNat) j = byV (updX X i v) j := by
  unfold updV byV updX
  split <;> rfl
theorem byte_next (b : UInt8) : ((b.toNat : Int) + 1) % 256 = ((b + 1).toNat : Int) := by
  rw [UInt8.toNat_add]; simp
theorem store_op (w : World) (Z : Array Value) (hz : Z.size = 5) (kind slot : Int) (bp : Option Addr) (bl bc : Nat) (short fail : Bool) :
    (storeVar 34 ⟨w.heap.size, 0, none⟩ (.agg #[.int .i64 kind, .int .i64 slot, .slice bp bl bc, .bool short, .bool fail])).run Try.prog (w.alloc (.cells Z 34)) = .ok () (w.alloc (.cells #[.int .i64 kind, .int .i64 slot, .slice bp bl bc, .bool short, .bool fail] 34)) :=
  run_storeVar_new (P := Try.prog) w 34 Z _ infoOp hz (by simp [Value.oneCell'])

set_option maxRecDepth 100000 in
set_option maxHeartbeats 8000000 in
theorem lawPlays_any (slots : Int) (a : Option Addr) (len cap : Nat) (O : Nat → Op4) (w : World) (hO : OpsAt w a len O) :
    Calls Try.prog 3 #[.int .i64 slots, .slice a len cap] w fun e w' => e = .returned (.bool true) ∧ Below w.heap.size w w' := by
  have HO := Lib.hid hO
  clear hO
  by_cases hlen : len ≤ 60
  · go_enter Try.func3, Try.ntmps3
    go_wp2_with (fail)
    refine (new_any slots w).mono ?_
    rintro e w1 ⟨D0, rfl, H, hn, d1, d2, hb⟩
    have HB1 := Lib.hid hb
    have H1 := Lib.hid H
    have HN := Lib.hid hn
    have hs1 := hb.size
    clear hb H hn
    go_wp2_with (fail)
    refine (refnew_any slots w1).mono ?_
    rintro e w2 ⟨r, rb, rfl, H, r1, r2, hb⟩
    have hlt := H1.out.lt
    have HP := Lib.hid (show PlAt w (clampS slots) r rb D0 (fun _ => 0) (fun _ => ByteArray.empty) w2 from
      ⟨H1.out.later hb, H, HN.out, same_new _, HB1.out.trans (hb.mono hs1), d1, d2, by omega, by omega, by omega, by omega, by omega⟩)
    clear hb H H1 HB1 hs1 d1 d2 r1 r2 hlt HN
    generalize clampS slots = n at HP
    have L1 := Lib.hid (show ∀ W, Kept w2.heap.size w2 W → (loadVar 3 ⟨r, 0, none⟩).run Try.prog W = .ok (.int .i64 n) W from
      fun W hW => run_loadVar_cell (fun _ => by kernel_rfl) (HP.out.ref.later hW.below).c0)
    go_wp2_with (fail)
    refine wp_region_lex (Kept w2.heap.size w2) [(0, false), (2, false), (3, false), (4, false), (5, false), (1, true), (6, false)]
      (by kernel_rfl) (by kernel_rfl) rfl (by kernel_rfl) ⟨rfl, rfl, rfl, Nat.le_refl _, fun _ _ => rfl⟩ ?_
    intro W0 hK0
    refine lexH_yieldE rfl rfl ?_
    apply Exists.intro
    refine ⟨fun W hW => ?_, ?_⟩
    focus (go_simp; exact rfl)
    simp only [List.getElem_toArray, List.getElem_cons_zero, Act.put, List.setIfInBounds_toArray, List.set_cons_zero, List.set_cons_succ]
    refine lexH_yieldE rfl rfl ?_
    apply Exists.intro
    refine ⟨fun W hW => ?_, ?_⟩
    focus (go_simp; exact rfl)
    simp only [List.getElem_toArray, List.getElem_cons_succ, List.getElem_cons_zero, Act.put, List.setIfInBounds_toArray, List.set_cons_zero, List.set_cons_succ]
    refine lexH_yieldE rfl rfl ?_
    apply Exists.intro
    refine ⟨fun W hW => ?_, ?_⟩
    focus (go_simp; exact rfl)
    simp only [List.getElem_toArray, List.getElem_cons_succ, List.getElem_cons_zero, Act.put, List.setIfInBounds_toArray, List.set_cons_zero, List.set_cons_succ]
    refine lexH_yieldE rfl rfl ?_
    apply Exists.intro
    refine ⟨fun W hW => ?_, ?_⟩
    focus (go_simp; exact rfl)
    simp only [List.getElem_toArray, List.getElem_cons_succ, List.getElem_cons_zero, Act.put, List.setIfInBounds_toArray, List.set_cons_zero, List.set_cons_succ]
    refine lexH_load rfl rfl _ _ rfl rfl L1.out ?_
    simp only [List.getElem_toArray, List.getElem_cons_succ, List.getElem_cons_zero, Act.put, List.setIfInBounds_toArray, List.set_cons_zero, List.set_cons_succ]
    refine lexH_call 11 #[.pointer (some ⟨D0.d, 0, none⟩)] rfl rfl ?_ ?_
    focus (go_simp; done)
    refine (slots_at (HP.out.dev.later hK0.below)).mono ?_
    rintro e w' ⟨rfl, rfl⟩
    rw [HP.out.hn]
    refine ⟨_, rfl, hK0, ?_⟩
    simp only [List.getElem_toArray, List.getElem_cons_succ, List.getElem_cons_zero, Act.put, List.setIfInBounds_toArray, List.set_cons_zero, List.set_cons_succ]
    refine lexH_yieldE rfl rfl ?_
    apply Exists.intro
    refine ⟨fun W hW => ?_, ?_⟩
    focus (go_simp; exact rfl)
    simp only [List.getElem_toArray, List.getElem_cons_succ, List.getElem_cons_zero, Act.put, List.setIfInBounds_toArray, List.set_cons_zero, List.set_cons_succ]
    refine lexH_nil ?_
    have HP0 := Lib.hid (HP.out.later hK0.below)
    clear hK0 HP L1
    go_wp2_with (fail)
    go_loopw [5, 40] (fun v i wr => ∃ (k : Nat) (D : DB) (B : Nat → UInt8) (S : Nat → ByteArray), k ≤ len ∧ v = .pointer (some ⟨D.d, 0, none⟩) ∧ i = .int .i64 k ∧ PlAt w n r rb D B S wr) (fun _ i _ => len - (intOf i).toNat)
    case atStart => exact ⟨0, D0, _, _, Nat.zero_le _, rfl, rfl, HP0.out⟩
    case round =>
      clear HP0
      obtain ⟨k, D, B, S, hk, rfl, rfl, hP⟩ := hrel
      have HP := Lib.hid hP
      clear hP
      by_cases hlt : k < len
      · obtain ⟨b, o, rfl, hr0, hS0, _⟩ := HO.out k hlt
        have HC := Lib.hid (show ∀ W, Below w.heap.size w W → W.rangeAt b (o + k * 5) (O k).cells ∧ Src W (O k).bp (O k).bl (O k).x from fun W hb => by
          obtain ⟨b', o', e, h1, h2, _⟩ := HO.out.later hb k hlt
          injection e with e
          injection e with e1 e2 e3
          subst e1; subst e2
          exact ⟨h1, h2⟩)
        clear hr0 hS0
        generalize O k = op at HC
        obtain ⟨kind, sl, bp, bl, bc, x, short, fail⟩ := op
        have HX := Lib.hid (show ∀ W, Below w.heap.size w W → Src W bp bl x from fun W hb => (HC.out W hb).2)
        have hrow := (HC.out wr HP.out.bel).1
        have c0 : wr.cell? ⟨b, o + k * 5, none⟩ = some (.int .i64 kind) := hrow 0 _ rfl
        have c1 : wr.cell? ⟨b, o + k * 5 + 1, none⟩ = some (.int .i64 sl) := hrow 1 _ rfl
        have c2 : wr.cell? ⟨b, o + k * 5 + 2, none⟩ = some (.slice bp bl bc) := hrow 2 _ rfl
        have c3 : wr.cell? ⟨b, o + k * 5 + 3, none⟩ = some (.bool short) := hrow 3 _ rfl
        have c4 : wr.cell? ⟨b, o + k * 5 + 4, none⟩ = some (.bool fail) := hrow 4 _ rfl
        clear hrow HC
        have HST := Lib.hid (store_op wr #[.int .i64 0, .int .i64 0, .slice none 0 0, .bool false, .bool false] rfl kind sl bp bl bc short fail)
        have hoff := HP.out.off (Nat.le_refl _)
        have hba : Below wr.heap.size wr (wr.alloc (.cells #[.int .i64 kind, .int .i64 sl, .slice bp bl bc, .bool short, .bool fail] 34)) := (Below.refl _ _).alloc (Nat.le_refl _) _
        have HR := Lib.hid (show RowAt (wr.alloc (.cells #[.int .i64 kind, .int .i64 sl, .slice bp bl bc, .bool short, .bool fail] 34)) wr.heap.size 5 (opV ⟨kind, sl, bp, bl, bc, x, short, fail⟩) from RowAt.new wr _ _ _ _ (fun i hi => by
          rcases (show i = 0 ∨ i = 1 ∨ i = 2 ∨ i = 3 ∨ i = 4 by omega) with rfl | rfl | rfl | rfl | rfl <;> rfl))
        have HP1 := Lib.hid (HP.out.later hba)
        have HOF := Lib.hid hoff
        clear hba hoff HP
        by_cases hbl : bl ≤ 600
        · go_upto_block 2 with (refine wpList_store_run rfl 34 _ _ rfl wr.heap.size _ _ rfl rfl HST.out ?_)
          clear c0 c1 c2 c3 c4 HST HO
          generalize wr.heap.size = ob at HR HOF ⊢
          generalize wr.alloc (.cells #[.int .i64 kind, .int .i64 sl, .slice bp bl bc, .bool short, .bool fail] 34) = W at HR HP1 ⊢
          go_cut [5] (fun v wc => ∃ (D : DB) (B : Nat → UInt8) (S : Nat → ByteArray), v = .pointer (some ⟨D.d, 0, none⟩) ∧ PlAt w n r rb D B S wc ∧ RowAt wc ob 5 (opV ⟨kind, sl, bp, bl, bc, x, short, fail⟩) ∧ Off w r rb D ob)
          case first =>
            have c0 : W.cell? ⟨ob, 0, none⟩ = some (.int .i64 kind) := HR.out.cell 0 (by decide)
            have c1 : W.cell? ⟨ob, 1, none⟩ = some (.int .i64 sl) := HR.out.cell 1 (by decide)
            have c2 : W.cell? ⟨ob, 2, none⟩ = some (.slice bp bl bc) := HR.out.cell 2 (by decide)
            have c3 : W.cell? ⟨ob, 3, none⟩ = some (.bool short) := HR.out.cell 3 (by decide)
            have c4 : W.cell? ⟨ob, 4, none⟩ = some (.bool fail) := HR.out.cell 4 (by decide)
            by_cases hk0 : kind = 0
            · as_aux_lemma =>
                subst hk0
                obtain ⟨i0, hi, hz0, hz1, hz2⟩ := info_parts infoByte
                have hba : Below W.heap.size W (W.alloc (.cells #[] 5)) := (Below.refl _ _).alloc (Nat.le_refl _) _
                have HBA := Lib.hid hba
                have HOW := Lib.hid (World.ownsRow_made W (e := 5) (base := W.heap.size) (size := 1) #[] 0 (Nat.le_refl _) (Nat.zero_le _) (by simp))
                have hby := bytes_any ⟨0, sl, bp, bl, bc, x, short, fail⟩ (HX.out _ (HP1.out.later hba).bel) hbl
                dsimp only at hby
                have HBY := Lib.hid hby
                have hR2 := HR.out.later hba
                have d0 : (W.alloc (.cells #[] 5)).cell? ⟨ob, 0, none⟩ = some (.int .i64 0) := hR2.cell 0 (by decide)
                have d1 : (W.alloc (.cells #[] 5)).cell? ⟨ob, 1, none⟩ = some (.int .i64 sl) := hR2.cell 1 (by decide)
                have d2 : (W.alloc (.cells #[] 5)).cell? ⟨ob, 2, none⟩ = some (.slice bp bl bc) := hR2.cell 2 (by decide)
                have d3 : (W.alloc (.cells #[] 5)).cell? ⟨ob, 3, none⟩ = some (.bool short) := hR2.cell 3 (by decide)
                have d4 : (W.alloc (.cells #[] 5)).cell? ⟨ob, 4, none⟩ = some (.bool fail) := hR2.cell 4 (by decide)
                clear hba hby hR2
                go_wp2_with (fail)
                refine HBY.out.mono ?_
                rintro e w2 ⟨a2, m, ca2, y, rfl, hS2, hm, hb2⟩
                have HO2 := Lib.hid (HOW.out.kept (row := none) ⟨hb2.os, hb2.tape, hb2.output, hb2.size, fun k hk _ => hb2.block k hk⟩ (.inr (by simp [Value.ownBlock])))
                have HB2 := Lib.hid (HBA.out.trans (hb2.mono HBA.out.size))
                have HS2 := Lib.hid hS2
                clear hS2 hb2 HOW HBA HBY d0 d1 d2 d3 d4
                go_wp2_with (at_builtin; refine wpList_append_src _ rfl _ _ 32 rfl W.heap.size 5 i0 _ 1 1 Try.underlying32 hi hz0 hz1 hz2 rfl (by decide) _ _ _ rfl HO2.out a2 m ca2 (bytL m y) rfl ?q1 ?q2 (bytL_one m y) ?q4 ?q5 HB2.out.size ?_)
                case q1 => rw [bytL_len, Nat.mul_one]
                case q2 => exact HS2.out.cells
                case q4 => unfold maxLen; omega
                case q5 => omega
                intro v' w3 hown hgr hnil
                obtain ⟨g, cap3, rfl, hg, hcap, hr⟩ := row_bytes hown rfl (fun i hi => bytL_at hi) hnil
                have hb3 : Below W.heap.size W w3 := HB2.out.grown hgr HB2.out.size (by intro k hk; simp [Value.ownBlock] at hk; omega)
                have HG3 := Lib.hid hr
                have HP3 := Lib.hid (HP1.out.later hb3)
                have hR3 := HR.out.later hb3
                have HR3 := Lib.hid hR3
                have c1' : w3.cell? ⟨ob, 1, none⟩ = some (.int .i64 sl) := hR3.cell 1 (by decide)
                have c4' : w3.cell? ⟨ob, 4, none⟩ = some (.bool fail) := hR3.cell 4 (by decide)
                have HGO := Lib.hid (HP1.out.off hg)
                have hgo : g ≠ ob := by have := HR.out.lt; omega
                clear hown hgr hnil hr hb3 hR3 c0 c1 c2 c3 c4 hi hz0 hz1 hz2 HP1 HR HO2 HS2 HB2
                go_wp2_with (fail)
                refine (dwrite_any HP3.out.dev sl (some ⟨g, 0, none⟩) m cap3 y fail (Src.of_row HG3.out (fun j hj => ⟨by omega, by rw [Nat.zero_add]⟩))).mono ?_
                rintro e w4 ⟨he, H4, ho4⟩
                rw [HP3.out.hn] at he
                subst he
                have hR4 := HR3.out.only ho4 (fun e => HOF.out.o2 e.symm)
                have c1 : w4.cell? ⟨ob, 1, none⟩ = some (.int .i64 sl) := hR4.cell 1 (by decide)
                have c4 : w4.cell? ⟨ob, 4, none⟩ = some (.bool fail) := hR4.cell 4 (by decide)
                have hG4 := HG3.out.only ho4 (fun e => HGO.out.o2 e.symm)
                have HR4 := Lib.hid hR4
                have HG4 := Lib.hid hG4
                have HF4 := Lib.hid (HP3.out.refAt ho4)
                have HO4 := Lib.hid ho4
                have HD4 := Lib.hid H4
                clear H4 ho4 hR4 hG4 c1' c4' HR3 HG3
                go_wp2_with (fail)
                refine (refwrite_any HF4.out sl (some ⟨g, 0, none⟩) m cap3 y fail (Src.of_row HG4.out (fun j hj => ⟨by omega, by rw [Nat.zero_add]⟩))).mono ?_
                rintro e w5 ⟨rfl, H5, ho5⟩
                have HP5 := Lib.hid (HP3.out.wrote HD4.out HO4.out H5 ho5 (HP3.out.same sl m y fail))
                have HR5 := Lib.hid (HR4.out.only ho5 (fun e => HOF.out.o4 e.symm))
                have HG5 := Lib.hid (HG4.out.only ho5 (fun e => HGO.out.o4 e.symm))
                clear H5 ho5 c1 c4 HD4 HO4 HF4 HG4 HR4 HP3
                generalize (if wrE D.n sl m fail = 0 then putB B (sl.toNat * 256) 256 y else B) = B5 at HP5
                generalize (if wrE n sl m fail = 0 then updS S sl.toNat (strB 256 y) else S) = S5 at HP5
                generalize wrE n sl m fail = er
                go_wp2_with (fail)
                go_loopw [78] (fun i wr => ∃ (j : Nat) (X : Nat → UInt8), j ≤ m ∧ i = .int .i64 j ∧ PlAt w n r rb D B5 S5 wr ∧ RowAt wr ob 5 (opV ⟨0, sl, bp, bl, bc, x, short, fail⟩) ∧ RowAt wr g m (byV X)) (fun i _ => m - (intOf i).toNat)
                case atStart => exact ⟨0, _, Nat.zero_le _, rfl, HP5.out, HR5.out, HG5.out⟩
                case round =>
                  clear HP5 HR5 HG5
                  obtain ⟨j, X, hj, rfl, hP, hR, hG⟩ := hrel
                  have HP := Lib.hid hP
                  have HR := Lib.hid hR
                  have HG := Lib.hid hG
                  clear hP hR hG
                  by_cases hjm : j < m
                  · have cg : wr.cell? ⟨g, j, none⟩ = some (.int .u8 (X j).toNat) := HG.out.cell j hjm
                    have fg := HG.out.frozen j
                    have hst := Only.setCell (S := Eq g) wr ⟨g, j, none⟩ rfl (.int .u8 ((X j + 1).toNat))
                    have HN1 := Lib.hid (HP.out.other HGO.out hst)
                    have HN2 := Lib.hid (HR.out.only hst hgo)
                    have HN3 := Lib.hid ((HG.out.setCell j (.int .u8 ((X j + 1).toNat))).ext (fun i _ => updV_byV X j (X j + 1) i))
                    have HBN := Lib.hid (byte_next (X j))
                    clear hst HP HR HG
                    go_wp2_with (fail)
                    rw [HBN.out]
                    go_roundw
                    case rel => exact ⟨j + 1, _, hjm, by go_num, HN1.out, HN2.out, HN3.out⟩
                    case measure => simp [intOf]; omega
                  · obtain rfl : j = m := by omega
                    go_wp2_with (fail)
                    go_meet
                    exact ⟨D, _, _, rfl, HP.out, HR.out, HOF.out⟩
            · have e0 : (kind == 0) = false := by simp; exact hk0
              clear hk0
              by_cases hk2 : kind = 2
              · as_aux_lemma =>
                  subst hk2
                  clear c0 c1 c2 c3 c4
                  go_wp2_with (fail)
                  refine (copy_ok HP1.out.dev).mono ?_
                  rintro e w3 ⟨E, rfl, HE, hn, e1, e2, hb⟩
                  have HP3 := Lib.hid (HP1.out.later hb)
                  have HE3 := Lib.hid HE
                  have HR3 := Lib.hid (HR.out.later hb)
                  have HN := Lib.hid hn
                  obtain ⟨l1, l2⟩ := HP1.out.dev.lt
                  have hob := HR.out.lt
                  have c0 := HP3.out.ref.c0
                  have HOE := Lib.hid (show Off w r rb E ob from ⟨HOF.out.lo, by omega, by omega, HOF.out.o3, HOF.out.o4⟩)
                  clear HE hb hn
                  by_cases hn0 : 0 < n
                  · have hba : Below w3.heap.size w3 (w3.alloc (.cells #[Value.int .u8 99] 5)) := (Below.refl _ _).alloc (Nat.le_refl _) _
                    have HP4 := Lib.hid (HP3.out.later hba)
                    have HE4 := Lib.hid (HE3.out.later hba)
                    have HR4 := Lib.hid (HR3.out.later hba)
                    have S4 := Lib.hid (Src.one w3 99 99 rfl)
                    clear hba HP3 HE3 HR3
                    go_wp2_with (fail)
                    generalize w3.alloc (.cells #[Value.int .u8 99] 5) = w4 at S4 HP4 HE4 HR4 ⊢
                    refine (page_any S4.out (by decide)).mono ?_
                    rintro e w5 ⟨g5, c5, rfl, hg5, _, hr, hb⟩
                    have HS5 := Lib.hid (Src.row hr)
                    have HP5 := Lib.hid (HP4.out.later hb)
                    have HE5 := Lib.hid (HE4.out.later hb)
                    have HR5 := Lib.hid (HR4.out.later hb)
                    clear hr hb HP4 HE4 HR4 c0
                    go_wp2_with (fail)
                    refine (write_ok HP5.out.dev 0 (by rw [HP5.out.hn]; exact hn0) _ c5 _ HS5.out).mono ?_
                    rintro e w6 ⟨rfl, H, ho⟩
                    have hE6 := HE5.out.only ho (by omega) (by omega)
                    have HQ := Lib.hid (HP1.out.swap hE6 (HP5.out.refAt ho) HN.out e1 e2 (ho.below HP5.out.bel HP5.out.bel.size (fun k hk => by have := HP5.out.u2; omega)))
                    have HR6 := Lib.hid (HR5.out.only ho (fun e => HOF.out.o2 e.symm))
                    clear H ho hE6
                    go_wp2_with (fail)
                    go_meet
                    exact ⟨E, _, _, rfl, HQ.out, HR6.out, HOE.out⟩
                  · have hn0' : n = 0 := by omega
                    have HQ := Lib.hid (HP1.out.swap HE3.out HP3.out.ref HN.out e1 e2 HP3.out.bel)
                    subst hn0'
                    have c0 : w3.cell? ⟨r, 0, none⟩ = some (.int .i64 0) := c0
                    go_wp2_with (fail)
                    go_meet
                    exact ⟨E, _, _, rfl, HQ.out, HR3.out, HOE.out⟩
              · as_aux_lemma =>
                  have e2 : (kind == 2) = false := by simp; exact hk2
                  clear hk2 c1 c2 c3 c4 c0
                  go_wp2_with (fail)
                  go_meet
                  exact ⟨D, _, _, rfl, HP1.out, HR.out, HOF.out⟩
          case rest =>
            clear HP1 HR HOF
            obtain ⟨D, B, S, rfl, hP, hR, hOF⟩ := hcut
            have c1 : wc.cell? ⟨ob, 1, none⟩ = some (.int .i64 sl) := hR.cell 1 (by decide)
            have c4 : wc.cell? ⟨ob, 4, none⟩ = some (.bool fail) := hR.cell 4 (by decide)
            have HP := Lib.hid hP
            have HR := Lib.hid hR
            clear hP hR hOF
            go_wp2_with (fail)
            refine (dread_any HP.out.dev sl fail).mono ?_
            rintro e w3 ⟨a3, ca3, he, hown, hb⟩
            rw [HP.out.hn] at he hown
            subst he
            have hR3 := HR.out.later hb
            have d1 : w3.cell? ⟨ob, 1, none⟩ = some (.int .i64 sl) := hR3.cell 1 (by decide)
            have d4 : w3.cell? ⟨ob, 4, none⟩ = some (.bool fail) := hR3.cell 4 (by decide)
            have HP3 := Lib.hid (HP.out.later hb)
            have HOW := Lib.hid hown
            have hgo : ∀ g, wc.heap.size ≤ g → Off w r rb D g := fun g hg => HP.out.off hg
            have HGO := Lib.hid hgo
            clear hR3 hown hb c1 c4 hgo
            go_wp2_with (fail)
            refine (refread_any HP3.out.ref HP3.out.rel sl fail).mono ?_
            rintro e w4 ⟨a4, ca4, rfl, hS4, hb⟩
            have HP4 := Lib.hid (HP3.out.later hb)
            have HOW4 := Lib.hid (HOW.out.later hb)
            have hs1 := run_string_src (c := ca3) (HOW4.out.src)
            have hs2 := run_string_src (c := ca4) hS4
            clear hS4 hb d1 d4 HOW HP HP3 HR
            have hm0 : rdM n sl fail ≤ 256 := by unfold rdM; split <;> omega
            generalize rdM n sl fail = m at *
            generalize rdE n sl fail = er at *
            generalize (fun i => B (sl.toNat * 256 + i)) = y at *
            go_wp2_with (fail)
            clear hs1 hs2
            go_loopw [135] (fun i wr => ∃ (j : Nat) (X : Nat → UInt8), j ≤ m ∧ i = .int .i64 j ∧ PlAt w n r rb D B S wr ∧ Own wr wc.heap.size a3 m X) (fun i _ => m - (intOf i).toNat)
            case atStart => exact ⟨0, _, Nat.zero_le _, rfl, HP4.out, HOW4.out⟩
            case round =>
              clear HP4 HOW4
              obtain ⟨j, X, hj, rfl, hP, hG⟩ := hrel
              have HP := Lib.hid hP
              clear hP
              by_cases hjm : j < m
              · obtain ⟨g, rfl, hg, hG⟩ : ∃ g, a3 = some ⟨g, 0, none⟩ ∧ wc.heap.size ≤ g ∧ RowAt wr g m (byV X) := by
                  rcases hG with h0 | h
                  · omega
                  · exact h
                have cg : wr.cell? ⟨g, j, none⟩ = some (.int .u8 (X j).toNat) := hG.cell j hjm
                have fg := hG.frozen j
                have hst := Only.setCell (S := Eq g) wr ⟨g, j, none⟩ rfl (.int .u8 ((X j + 1).toNat))
                have HN1 := Lib.hid (HP.out.other (HGO.out g hg) hst)
                have HN3 := Lib.hid (show Own (wr.setCell ⟨g, j, none⟩ (.int .u8 ((X j + 1).toNat))) wc.heap.size (some ⟨g, 0, none⟩) m (updX X j (X j + 1)) from
                  .inr ⟨g, rfl, hg, (hG.setCell j (.int .u8 ((X j + 1).toNat))).ext (fun i _ => updV_byV X j (X j + 1) i)⟩)
                have HBN := Lib.hid (byte_next (X j))
                clear hst HP hG
                go_wp2_with (fail)
                rw [HBN.out]
                go_roundw
                case rel => exact ⟨j + 1, _, hjm, by go_num, HN1.out, HN3.out⟩
                case measure => simp [intOf]; omega
              · obtain rfl : j = m := by omega
                clear hG
                go_wp2_with (fail)
                go_roundw
                case rel => exact ⟨k + 1, D, B, S, hlt, rfl, by go_num, HP.out⟩
                case measure => simp [intOf]; omega
        · have HB := Lib.hid HP1.out.bel
          go_wp2_with (refine wpList_store_run rfl 34 _ _ rfl wr.heap.size _ _ rfl rfl HST.out ?_)
          clear c0 c1 c2 c3 c4 HST HO
          generalize wr.alloc (.cells #[.int .i64 kind, .int .i64 sl, .slice bp bl bc, .bool short, .bool fail] 34) = W at HB ⊢
          refine (known_any W).mono ?_
          rintro e w9 ⟨rfl, hb⟩
          have HB2 := Lib.hid (HB.out.trans (hb.mono HB.out.size))
          clear hb
          go_wp2_with (fail)
          go_ret
          exact ⟨rfl, HB2.out⟩
      · obtain rfl : k = len := by omega
        clear HO
        go_wp2_with (fail)
        go_loopw [18] (fun i wr => ∃ j : Nat, j ≤ n ∧ j ≤ 40 ∧ i = .int .i64 j ∧ PlAt w n r rb D B S wr) (fun i _ => 40 - (intOf i).toNat)
        case atStart => exact ⟨0, Nat.zero_le _, Nat.zero_le _, rfl, HP.out⟩
        case round =>
          clear HP
          obtain ⟨j, hj1, hj2, rfl, hP⟩ := hrel
          have HP := Lib.hid hP
          have c0 := HP.out.ref.c0
          clear hP
          by_cases hjn : j < n ∧ j < 40
          · obtain ⟨g1, g2⟩ := hjn
            go_wp2_with (fail)
            refine (dread_any HP.out.dev j false).mono ?_
            rintro e w3 ⟨a3, ca3, he, hown, hb⟩
            have hM : rdM n j false = 256 := if_pos ⟨by omega, by omega, rfl⟩
            have hE : rdE n j false = 0 := by unfold rdE; rw [if_pos ⟨by omega, by omega⟩]; rfl
            rw [HP.out.hn, hM] at hown
            rw [HP.out.hn, hM, hE] at he
            subst he
            have HP3 := Lib.hid (HP.out.later hb)
            have HOW := Lib.hid hown
            have HM := Lib.hid hM
            have HE := Lib.hid hE
            clear hown hb c0 HP hM hE
            go_wp2_with (fail)
            refine (refread_any HP3.out.ref HP3.out.rel j false).mono ?_
            rintro e w4 ⟨a4, ca4, he, hS4, hb⟩
            rw [HM.out] at hS4
            rw [HM.out, HE.out] at he
            subst he
            have HP4 := Lib.hid (HP3.out.later hb)
            have hs1 := run_string_src (c := ca3) (HOW.out.later hb).src
            have hs2 := run_string_src (c := ca4) hS4
            clear hS4 hb HOW HP3
            generalize (fun i => B ((j : Int).toNat * 256 + i)) = y at *
            go_wp2_with (fail)
            clear hs1 hs2
            go_roundw
            case rel => exact ⟨j + 1, g1, g2, by go_num, HP4.out⟩
            case measure => simp [intOf]; omega
          · have hcs : ¬ j < n ∨ (j < n ∧ ¬ j < 40) := by omega
            clear hjn
            have HB := Lib.hid HP.out.bel
            rcases hcs with g1 | ⟨g1, g2⟩
            all_goals
              go_wp2_with (fail)
              refine (known_any wr).mono ?_
              rintro e w9 ⟨rfl, hb⟩
              have HB2 := Lib.hid (HB.out.trans (hb.mono HB.out.size))
              clear hb
              go_wp2_with (fail)
              go_ret
              exact ⟨rfl, HB2.out⟩
  · go_enter Try.func3, Try.ntmps3
    go_wp2_with (fail)
    refine (known_any w).mono ?_
    rintro e w9 ⟨rfl, hb⟩
    have HB2 := Lib.hid hb
    clear hb
    go_wp2_with (fail)
    go_ret
    exact ⟨rfl, HB2.out⟩
end Go.Proofs.Ytadjkanjlkammaa
