/-
  The walk of AreasRuns: it returns true, and below the old heap nothing has turned.
-/
import Derived.Test.YthnkbipdlepbaaaArRu
import Derived.Deep.LoopGhost
namespace Go.Proofs.Ythnkbipdlepbaaa
open Go.RowKit Go.Shelf Go
attribute [local go_sem] Oper.semAt_some
section
variable {IsA : Thg → Nat → (Nat → Nat) → Prop} (ok : AreasOk IsA)
include ok
set_option maxRecDepth 100000 in
set_option maxHeartbeats 8000000 in
theorem lawARuns_in (m : Nat) (hm : 8 ≤ m) (a : Option Addr) (len cap : Nat) (O : Nat → OpA) (w : World) (hO : OpsAt w a len O) :
    CallsIn Fence.wide m Try.prog 5 #[.slice a len cap] w fun e w' => e = .returned (.bool true) ∧ Below w.heap.size w w' := by
  have h1 : 1 ≤ m := by omega
  have HO := Lib.hid hO
  clear hO
  refine callsIn_of_wp_marks Try.func5 rfl trivial ?_ rfl
  simp only [Try.ntmps5, List.size_toArray, List.length_cons, List.length_nil, Nat.reduceAdd, Nat.reduceSub, Array.replicate_succ, Array.replicate_zero, List.push_toArray, List.append_toArray, List.nil_append, List.cons_append]
  refine wpIn_wide.2 ?_
  have ha : Below w.heap.size w (w.alloc (.cells #[.bool false] 4)) := (Below.refl _ w).alloc (Nat.le_refl _) _
  have HRC := Lib.hid (RowAt.new w #[.bool false] 4 1 (fun _ => .bool false) (fun i hi => by
    obtain rfl : i = 0 := by omega
    rfl))
  have HB1 := Lib.hid ha
  have hs1 : (w.alloc (.cells #[.bool false] 4)).heap.size = w.heap.size + 1 := by simp
  clear ha
  go_wp2_with (fail)
  generalize w.alloc (.cells #[.bool false] 4) = w1 at *
  refine (ok.new w1).mono ?_
  rintro e w2 ⟨d, Y, rfl, hY, hT⟩
  have HY := Lib.hid hY
  have HT := Lib.hid hT
  have hs2 := hT.only.size
  clear hY hT
  by_cases hlen : len ≤ 150
  · have hlenI : ¬ (150 < (len : Int)) := by omega
    go_wp2_with (fail)
    have HS0 := Lib.hid (show RuAt IsA w1 w2.heap.size d (fun _ => 0) Y [] (w2.alloc (.cells #[.pointer (some ⟨d, 0, none⟩)] 23)) from by
      have hT := HT.out
      have hb : Below w1.heap.size w1 w2 := hT.only.below (Below.refl _ _) (Nat.le_refl _) (fun k h => False.elim h)
      have hb2 : Below w2.heap.size w2 (w2.alloc (.cells #[.pointer (some ⟨d, 0, none⟩)] 23)) := (Below.refl _ _).alloc (Nat.le_refl _) _
      exact ⟨HY.out, Y.later hT.at' hb2, hb.trans (hb2.mono hs2), fun k hk => (hT.new k hk).elim (fun h => False.elim h) id, RowAt.new _ _ _ _ _ (fun i hi => by
        obtain rfl : i = 0 := by omega
        rfl), fun hk => by have := Y.lt _ hT.at' _ hk; omega, hs2, List.nodup_nil, fun D hD => absurd hD List.not_mem_nil⟩)
    generalize w2.alloc (.cells #[.pointer (some ⟨d, 0, none⟩)] 23) = w3 at *
    have HPB := Lib.hid hs2
    clear HT HY
    generalize w2.heap.size = pb at *
    refine wp_loop_ghost (fun j a' W => ∃ (k : Nat) (f : Nat → Nat) (X : Thg) (Ds : List Nat), j = len - k ∧ k ≤ len ∧ a'.tmps.size = 136 ∧ a'.tmps[0]? = some (.slice a len cap) ∧ a'.tmps[2]? = some (.pointer (some ⟨w.heap.size, 0, none⟩)) ∧ a'.tmps[3]? = some (.pointer (some ⟨pb, 0, none⟩)) ∧
      a'.tmps[25]? = some (.int .i64 len) ∧ a'.tmps[26]? = some (.int .i64 k) ∧ a'.defers = colls Ds ∧ RuAt IsA w1 pb d f X Ds W) len
      ⟨0, _, _, [], rfl, Nat.zero_le _, rfl, rfl, rfl, rfl, rfl, rfl, rfl, HS0.out⟩ ?_
    clear HS0
    rintro j ⟨tm, df⟩ wr ⟨k, f, X, Ds, rfl, hk, s0, t0, t2, t3, t25, t26, rfl, hA⟩
    dsimp only at s0 t0 t2 t3 t25 t26
    obtain ⟨u, rfl⟩ := ru_frame s0 t0 t2 t3 t25 t26
    have HA := Lib.hid hA
    clear s0 t0 t2 t3 t25 t26 hA
    unfold ruF
    by_cases hlt : k < len
    · obtain ⟨b, o, rfl, hbl, hok, hc⟩ := HO.out.one k hlt
      have hltI : (k : Int) < (len : Int) := by omega
      have hd0 : decide ((len : Int) ≤ (k : Int)) = false := decide_eq_false (by omega)
      have hd1 : decide (len ≤ k) = false := decide_eq_false (by omega)
      have HOK := Lib.hid hok
      have Lo := Lib.hid (show ∀ U, PbS w pb d U → (loadVar 30 ⟨b, o + k * 4, none⟩).run Try.prog U = .ok (.agg #[.int .i64 (O k).kind, .int .i64 (O k).page, .int .i64 (O k).count, .int .u8 (O k).rights]) U from fun U hU => by
        obtain ⟨c0, c1, c2, c3⟩ := hc U hU.1
        exact load_op c0 c1 c2 c3)
      have Lp := Lib.hid (show ∀ U, PbS w pb d U → (loadVar 23 ⟨pb, 0, none⟩).run Try.prog U = .ok (.pointer (some ⟨d, 0, none⟩)) U from fun U hU => hU.load)
      clear hc hbl hok
      generalize O k = op at *
      go_wp2_with (fail)
      have HBW := Lib.hid (show Below w.heap.size w wr from HB1.out.trans (HA.out.bel.mono (by omega)))
      refine wp_region_lex1 (PbS w pb d) [(0, false), (1, false), (2, false), (3, false), (4, false), (5, true)]
        (by kernel_rfl) (by kernel_rfl) rfl (by kernel_rfl) ⟨HBW.out.trans ((Below.refl w.heap.size wr).drew), (HA.out.later (Below.refl _ wr).drew).box⟩ ?_
      intro W0 hW0 hK0
      have HA0 := Lib.hid (show RuAt IsA w1 pb d f X Ds W0 by rw [hW0]; exact HA.out.later (Below.refl _ wr).drew)
      clear hW0 hK0 HA HBW
      refine lexH_load rfl rfl _ _ rfl rfl Lp.out ?_
      simp only [List.getElem_toArray, List.getElem_cons_zero, Act.put, List.setIfInBounds_toArray, List.set_cons_zero, List.set_cons_succ]
      refine lexH_yieldE rfl rfl ?_
      apply Exists.intro
      refine ⟨fun W hW => ?_, ?_⟩
      focus (go_simp; exact rfl)
      simp only [List.getElem_toArray, List.getElem_cons_succ, List.getElem_cons_zero, Act.put, List.setIfInBounds_toArray, List.set_cons_zero, List.set_cons_succ]
      refine lexH_yieldE rfl rfl ?_
      apply Exists.intro
      refine ⟨fun W hW => ?_, ?_⟩
      focus (go_simp; exact rfl)
      simp only [List.getElem_toArray, List.getElem_cons_succ, List.getElem_cons_zero, Act.put, List.setIfInBounds_toArray, List.set_cons_zero, List.set_cons_succ]
      refine lexH_yieldE rfl rfl ?_
      apply Exists.intro
      refine ⟨fun W hW => ?_, ?_⟩
      focus (go_simp; exact rfl)
      simp only [List.getElem_toArray, List.getElem_cons_succ, List.getElem_cons_zero, Act.put, List.setIfInBounds_toArray, List.set_cons_zero, List.set_cons_succ]
      refine lexH_load rfl rfl _ _ rfl rfl Lo.out ?_
      simp only [List.getElem_toArray, List.getElem_cons_succ, List.getElem_cons_zero, Act.put, List.setIfInBounds_toArray, List.set_cons_zero, List.set_cons_succ]
      refine lexH_call 25 #[.pointer (some ⟨d, 0, none⟩), .agg #[.int .i64 op.kind, .int .i64 op.page, .int .i64 op.count, .int .u8 op.rights]] rfl rfl ?_ ?_
      focus (go_simp; done)
      refine (play_t ok HA0.out.is HA0.out.at' op HOK.out).mono ?_
      rintro e w4 ⟨rfl, Z, hZ, hT⟩
      have HA4 := Lib.hid (HA0.out.turn hZ hT)
      refine ⟨_, rfl, ⟨HB1.out.trans (HA4.out.bel.mono (by omega)), HA4.out.box⟩, ?_⟩
      clear hZ hT HA0
      simp only [List.getElem_toArray, List.getElem_cons_succ, List.getElem_cons_zero, Act.put, List.setIfInBounds_toArray, List.set_cons_zero, List.set_cons_succ]
      refine lexH_nil ?_
      clear Lo Lp hd0 hd1
      obtain ⟨W5, hW5⟩ : ∃ W5, ((w4.alloc (.cells #[.int .i64 0, .int .i64 0, .int .u8 0] TRun)).alloc (.cells #[.int .i64 0] 3)).alloc (.cells #[.int .i64 0] 3) = W5 := ⟨_, rfl⟩
      have hb5 : Below w4.heap.size w4 W5 := by rw [← hW5]; exact (((Below.refl _ _).alloc (Nat.le_refl _) _).alloc (by simp) _).alloc (by simp; omega) _
      have hs5 : W5.heap.size = w4.heap.size + 3 := by rw [← hW5]; simp
      have hl5 : RowAt W5 w4.heap.size 3 (rnV (0, 0, 0)) := by rw [← hW5]; exact ((run_row w4 (0, 0, 0)).alloc _).alloc _
      have hn5 : RowAt W5 (w4.heap.size + 1) 1 (fun _ => .int .i64 0) := by
        have h := RowAt.new (w4.alloc (.cells #[.int .i64 0, .int .i64 0, .int .u8 0] TRun)) #[.int .i64 0] 3 1 (fun _ => .int .i64 0) (fun i hi => by
          obtain rfl : i = 0 := by omega
          rfl)
        rw [World.size_alloc] at h
        rw [← hW5]
        exact h.alloc _
      have he5 : RowAt W5 (w4.heap.size + 2) 1 (fun _ => .int .i64 0) := by
        have h := RowAt.new ((w4.alloc (.cells #[.int .i64 0, .int .i64 0, .int .u8 0] TRun)).alloc (.cells #[.int .i64 0] 3)) #[.int .i64 0] 3 1 (fun _ => .int .i64 0) (fun i hi => by
          obtain rfl : i = 0 := by omega
          rfl)
        rw [World.size_alloc, World.size_alloc] at h
        rw [← hW5]
        exact h
      have HA5 := Lib.hid (HA4.out.later hb5)
      have HL5 := Lib.hid hl5
      have HN5 := Lib.hid hn5
      have HE5 := Lib.hid he5
      have cp : W5.cell? ⟨pb, 0, none⟩ = some (.pointer (some ⟨d, 0, none⟩)) := HA5.out.box.cell 0 (by decide)
      rw [← hW5] at cp
      have HW5 := Lib.hid hW5
      clear hl5 hn5 he5 hb5 hW5
      go_wp2_with (fail)
      rw [HW5.out]
      have HBL := Lib.hid HA4.out.le
      have HPB4 := Lib.hid HA4.out.box.lt
      have HLX := Lib.hid (Z.lt w4 HA4.out.at')
      have HLD := Lib.hid (show ∀ D ∈ Ds, D < w4.heap.size from fun D hD => (Array.getElem?_eq_some_iff.1 (HA4.out.ds D hD).1).1)
      have HINV := Lib.hid (ok.inv HA4.out.is)
      clear HW5 cp HA4
      generalize w4.heap.size = bl at *
      generalize playA f op = g at *
      refine (ok.runs HA5.out.is HA5.out.at').mono ?_
      rintro e W6 ⟨g0, lb0, own0, rfl, hb, _, hnil0, _, _⟩
      have HA6 := Lib.hid (HA5.out.later hb)
      have HL6 := Lib.hid (HL5.out.later hb)
      have HN6 := Lib.hid (HN5.out.later hb)
      have HE6 := Lib.hid (HE5.out.later hb)
      have hs6 := hb.size
      have cp : W6.cell? ⟨pb, 0, none⟩ = some (.pointer (some ⟨d, 0, none⟩)) := HA6.out.box.cell 0 (by decide)
      clear hb HA5 HL5 HN5 HE5
      go_wp2_with (fail)
      refine (ok.runs HA6.out.is HA6.out.at').mono ?_
      rintro e W7 ⟨g1, lb1, own1, rfl, hb, hent1, hnil1, hown1, hT1⟩
      have HA7 := Lib.hid (HA6.out.later hb)
      have HL7 := Lib.hid (HL6.out.later hb)
      have HN7 := Lib.hid (HN6.out.later hb)
      have HE7 := Lib.hid (HE6.out.later hb)
      have hs7 := hb.size
      clear hb HA6 HL6 HN6 HE6 cp hnil0 hnil1
      obtain ⟨L, hL⟩ : ∃ L, rns g = L := ⟨_, rfl⟩
      have HSTEP := Lib.hid (show ∀ (j : Nat) (hj : j < L.length), StepR g (lastRu L j) (L[j]'hj) j from by
        rw [← hL]
        exact fun j hj => step_run HINV.out.1 hj)
      have HLL := Lib.hid hL
      have HL32 := Lib.hid (show L.length ≤ 32 from by rw [← hL]; exact HINV.out.2.2)
      rw [hL] at hT1
      have HT1 := Lib.hid hT1
      have HENT1 := Lib.hid hent1
      have HOWN1 := Lib.hid (show ∀ k, own1 k → k < W7.heap.size ∧ ¬ (k = bl ∨ k = bl + 1 ∨ k = bl + 2) from fun k hk => by
        obtain ⟨h1, h2⟩ := hown1 k hk
        refine ⟨h2, fun e => ?_⟩
        rcases h1 with h1 | h1
        · have := HLX.out k h1; omega
        · omega)
      clear hT1 hent1 hown1 hL HINV
      go_wp2_with (fail)
      have hsz5 : bl + 3 ≤ W7.heap.size := by omega
      have hsq1 := HT1.out.solo (m - 1) (by omega) (fun k => k = bl ∨ k = bl + 1 ∨ k = bl + 2) (fun k hk => by omega) HOWN1.out
      have HR0 := Lib.hid (show RnAt W7 bl L ([] : List (Fin L.length)).length W7 from ⟨HL7.out, HN7.out, HE7.out, Only.refl _ _⟩)
      clear HL7 HN7 HE7 HOWN1
      refine (wpIn_wide (n := m)).1 ?_
      refine range_oB rfl h1 (gf := g1) (lb := lb1) (by simp [go_sem]) trivial HENT1.out hsq1 KpZ.trans (fun W l o o' _ _ _ => KpZ.put W l o') (fun x => rfl) (fun pre W => RnAt W7 bl L pre.length W) (fun _ _ _ => False) (rn_own (by omega)) (fun _ _ _ _ _ h _ _ => h) HR0.out
        8 (fun l U0 x zb W' => RowAt W' zb 3 (rnV (L[x.val]'x.isLt)) ∧ W7.heap.size ≤ zb ∧ KpZ (fun k => k = bl ∨ k = bl + 1 ∨ k = bl + 2) l U0 W') (fun l U0 x zb W o o' _ R hl ho => ⟨row_put o' R.1 hl ho, R.2.1, R.2.2.trans (KpZ.put _ _ _)⟩) ?assign1 ?body1 ?done1 (fun _ _ _ _ _ _ hIx _ => hIx.elim)
      case assign1 =>
        intro l pre x V K hl hI hK
        have HK := Lib.hid hK
        have HI := Lib.hid hI
        have HR := Lib.hid (run_row V (L[x.val]'x.isLt))
        have HST := Lib.hid (store_run V (L[x.val]'x.isLt))
        have HW := Lib.hid ((Below.refl _ V).alloc (Nat.le_refl _) (.cells #[.int .i64 (L[x.val]'x.isLt).1, .int .i64 (L[x.val]'x.isLt).2.1, .int .u8 (L[x.val]'x.isLt).2.2] TRun))
        clear hK hI hsq1
        unfold runV at HST
        simp only [runV]
        gi_wp2_with (fail)
        have h9 := HK.out V.heap.size _ ((KeepsOthers.alloc V _).from _) (HI.out.later HW.out) ⟨HR.out, HI.out.only.size, KpZ.of_below HW.out⟩
        simpa [runV] using h9
      case body1 =>
        rintro l pre x zb U0 V hl hI ⟨hz, hzb, hk0⟩ hlen2
        obtain ⟨hxl, _⟩ := next_of_some hlen2
        have HK0 := Lib.hid hk0
        have hpl : pre.length < L.length := by rw [← hxl]; exact x.isLt
        obtain ⟨q1, hq1⟩ : ∃ q, L[pre.length]'hpl = q := ⟨_, rfl⟩
        have hq2 : L[x.val]'x.isLt = q1 := by rw [← hq1]; exact getElem_congr_idx hxl
        have hst := HSTEP.out pre.length hpl
        rw [hq1] at hst
        obtain ⟨z, hzl⟩ : ∃ z, lastRu L pre.length = z := ⟨_, rfl⟩
        rw [hzl] at hst
        have hla := hI.last
        have hen := hI.end'
        rw [hzl] at hla hen
        rw [hq2] at hz
        have HLA := Lib.hid (show lastRu L (pre.length + 1) = q1 from by rw [lastR_succ hpl]; exact hq1)
        obtain ⟨y1, y2, y3⟩ := q1
        obtain ⟨z1, z2, z3⟩ := z
        obtain ⟨s1, s2, s3, s4, s5, s6, s7, s8⟩ := hst
        dsimp only at s1 s2 s3 s4 s5 s6 s7 s8
        have hsz := hI.only.size
        have HV := Lib.hid (HA7.out.only hI.only (fun k hk => by have := HBL.out; omega) (fun k hk h => by have := HLX.out k hk; omega) (fun h => by have := HPB4.out; omega) (fun D hD h => by have := HLD.out D hD; omega))
        have HZ := Lib.hid hz
        have HLAST := Lib.hid hla
        have HEN := Lib.hid hen
        have HCN := Lib.hid hI.cn
        have HOI := Lib.hid hI.only
        have cy0 : V.cell? ⟨zb, 0, none⟩ = some (.int .i64 y1) := hz.cell 0 (by decide)
        have cy1 : V.cell? ⟨zb, 1, none⟩ = some (.int .i64 y2) := hz.cell 1 (by decide)
        have cy2 : V.cell? ⟨zb, 2, none⟩ = some (.int .u8 y3) := hz.cell 2 (by decide)
        have cz0 : V.cell? ⟨bl, 0, none⟩ = some (.int .i64 z1) := hla.cell 0 (by decide)
        have cz1 : V.cell? ⟨bl, 1, none⟩ = some (.int .i64 z2) := hla.cell 1 (by decide)
        have cz2 : V.cell? ⟨bl, 2, none⟩ = some (.int .u8 z3) := hla.cell 2 (by decide)
        have cn : V.cell? ⟨bl + 1, 0, none⟩ = some (.int .i64 pre.length) := hI.cn.cell 0 (by decide)
        have HG0 := Lib.hid s7
        have HG1 := Lib.hid s8
        have HS6 := Lib.hid s6
        simp only [runV, hq2]
        clear hsq1 hz hk0 hq1 hq2 hI hxl hzl hla hen s6 s7 s8 hlen2
        have t1 : ¬ ((y2 : Int) < 1) := by omega
        have t2 : ¬ ((y1 : Int) < (z1 : Int) + (z2 : Int)) := by omega
        have t3 : ¬ (1024 < (y1 : Int) + (y2 : Int)) := by omega
        have t4 : ¬ ((y3 : Int) < 1) := by omega
        have t5 : ¬ (3 < (y3 : Int)) := by omega
        generalize hjl : pre.length = j at *
        have HJL := Lib.hid hjl
        clear hjl
        rcases (show j = 0 ∨ (0 < j ∧ y1 ≠ z1 + z2) ∨ (0 < j ∧ y1 = z1 + z2 ∧ y3 ≠ z3) by
          have := HS6.out
          omega) with hA | ⟨hj, hB⟩ | ⟨hj, hB, hC⟩
        · subst hA
          gi_wp2_with (fail)
          gi_loopw [] (fun wr => ∃ q : Nat, z1 + z2 ≤ q ∧ q ≤ y1 + y2 ∧ Hid (PgAt V (bl + 2) q wr)) (fun wr => y1 + y2 - cntAt wr (bl + 2))
          case atStart => exact ⟨z1 + z2, Nat.le_refl _, by omega, Lib.hid ⟨HEN.out, Only.refl _ _⟩⟩
          case round =>
            obtain ⟨q, hq1, hq2, HP⟩ := hrel
            have hszP := HP.out.only.size
            have hbV : bl + 2 < V.heap.size := by omega
            have ky0 : wr.cell? ⟨zb, 0, none⟩ = some (.int .i64 y1) := HP.out.only.cell (by omega) (HZ.out.cell 0 (by decide))
            have ky1 : wr.cell? ⟨zb, 1, none⟩ = some (.int .i64 y2) := HP.out.only.cell (by omega) (HZ.out.cell 1 (by decide))
            have ky2 : wr.cell? ⟨zb, 2, none⟩ = some (.int .u8 y3) := HP.out.only.cell (by omega) (HZ.out.cell 2 (by decide))
            have kp : wr.cell? ⟨bl + 2, 0, none⟩ = some (.int .i64 q) := HP.out.pg.cell 0 (by decide)
            have HVR := Lib.hid (HV.out.only HP.out.only (fun k hk => by have := HBL.out; omega) (fun k hk h => by have := HLX.out k hk; omega) (fun h => by have := HPB4.out; omega) (fun D hD h => by have := HLD.out D hD; omega))
            have kb : wr.cell? ⟨pb, 0, none⟩ = some (.pointer (some ⟨d, 0, none⟩)) := HVR.out.box.cell 0 (by decide)
            clear cy0 cy1 cy2 cz0 cz1 cz2 cn
            by_cases hlq : q < y1 + y2
            · have hlqI : (q : Int) < (y1 : Int) + (y2 : Int) := by omega
              gi_wp2_with (fail)
              refine ⟨trivial, fun _ => by omega, (CallsIn.inRound l (callsIn_wide.2 (ok.rights (q : Int) HVR.out.is HVR.out.at'))).mono ?_⟩
              rw [rgV_at (show q < 1024 by omega)]
              rintro e V2 ⟨rfl, hb⟩
              have HP2 := Lib.hid (HP.out.later hb)
              have kp2 : V2.cell? ⟨bl + 2, 0, none⟩ = some (.int .i64 q) := HP2.out.pg.cell 0 (by decide)
              have kf2 : V2.frozen? ⟨bl + 2, 0, none⟩ = false := HP2.out.pg.frozen 0
              have ky0 : V2.cell? ⟨zb, 0, none⟩ = some (.int .i64 y1) := HP2.out.only.cell (by omega) (HZ.out.cell 0 (by decide))
              have ky2 : V2.cell? ⟨zb, 2, none⟩ = some (.int .u8 y3) := HP2.out.only.cell (by omega) (HZ.out.cell 2 (by decide))
              have HP3 := Lib.hid (HP2.out.step)
              have HCA := Lib.hid (show y1 + y2 - cntAt (V2.setCell ⟨bl + 2, 0, none⟩ (.int .i64 ((q : Int) + 1))) (bl + 2) < y1 + y2 - cntAt wr (bl + 2) from by
                rw [cntAt_of kp, cntAt_of (k := q + 1) (HP3.out.pg.cell 0 (by decide))]
                omega)
              clear hb kp kb hlqI
              by_cases hlo : q < y1
              · rw [HG0.out q hq1 hlo]
                have hloI : (q : Int) < (y1 : Int) := by omega
                gi_wp2_with (fail)
                exact ⟨⟨q + 1, by omega, by omega, HP3⟩, HCA.out⟩
              · rw [HG1.out q (by omega) (by omega)]
                rw [show (y3 != 0) = true from by simp; omega]
                have hloI : (y1 : Int) ≤ (q : Int) := by omega
                gi_wp2_with (fail)
                exact ⟨⟨q + 1, by omega, by omega, HP3⟩, HCA.out⟩
            · obtain rfl : q = y1 + y2 := by omega
              have Lz := Lib.hid (show (loadVar TRun ⟨zb, 0, none⟩).run Try.prog wr = .ok (.agg #[.int .i64 y1, .int .i64 y2, .int .u8 y3]) wr from load_run ky0 ky1 ky2)
              have HLASTR := Lib.hid (HLAST.out.only HP.out.only (by omega))
              have HCNR := Lib.hid (HCN.out.only HP.out.only (by omega))
              have kl0 : wr.cell? ⟨bl, 0, none⟩ = some (.int .i64 z1) := HLASTR.out.cell 0 (by decide)
              have kl1 : wr.cell? ⟨bl, 1, none⟩ = some (.int .i64 z2) := HLASTR.out.cell 1 (by decide)
              have kl2 : wr.cell? ⟨bl, 2, none⟩ = some (.int .u8 z3) := HLASTR.out.cell 2 (by decide)
              have kf0 : wr.frozen? ⟨bl, 0, none⟩ = false := HLASTR.out.frozen 0
              have kf1 : wr.frozen? ⟨bl, 1, none⟩ = false := HLASTR.out.frozen 1
              have kf2 : wr.frozen? ⟨bl, 2, none⟩ = false := HLASTR.out.frozen 2
              have kn : wr.cell? ⟨bl + 1, 0, none⟩ = some (.int .i64 0) := HCNR.out.cell 0 (by decide)
              have kg : wr.frozen? ⟨bl + 1, 0, none⟩ = false := HCNR.out.frozen 0
              clear kb
              gi_wp2_with (fail)
              obtain ⟨n1, n2⟩ := RnAt.next (v := .int .i64 1) HLASTR.out HCNR.out HP.out HOI.out HLA.out rfl
              exact ⟨⟨n2.size, fun i o hB hi hc => (n2.block i (Array.getElem?_eq_some_iff.1 hi).1 (by omega)).trans hi⟩, HK0.out.trans (KpZ.of_only n2), by
                show RnAt W7 bl L (pre ++ [x]).length _
                rw [List.length_append, HJL.out]
                exact n1⟩
        · have u1 : 0 < (j : Int) := by omega
          have u2 : ((y1 : Int) == (z1 : Int) + (z2 : Int)) = false := by simp; omega
          have u4 : (j : Int) < 32 := by have := HL32.out; omega
          gi_wp2_with (fail)
          gi_loopw [] (fun wr => ∃ q : Nat, z1 + z2 ≤ q ∧ q ≤ y1 + y2 ∧ Hid (PgAt V (bl + 2) q wr)) (fun wr => y1 + y2 - cntAt wr (bl + 2))
          case atStart => exact ⟨z1 + z2, Nat.le_refl _, by omega, Lib.hid ⟨HEN.out, Only.refl _ _⟩⟩
          case round =>
            obtain ⟨q, hq1, hq2, HP⟩ := hrel
            have hszP := HP.out.only.size
            have hbV : bl + 2 < V.heap.size := by omega
            have ky0 : wr.cell? ⟨zb, 0, none⟩ = some (.int .i64 y1) := HP.out.only.cell (by omega) (HZ.out.cell 0 (by decide))
            have ky1 : wr.cell? ⟨zb, 1, none⟩ = some (.int .i64 y2) := HP.out.only.cell (by omega) (HZ.out.cell 1 (by decide))
            have ky2 : wr.cell? ⟨zb, 2, none⟩ = some (.int .u8 y3) := HP.out.only.cell (by omega) (HZ.out.cell 2 (by decide))
            have kp : wr.cell? ⟨bl + 2, 0, none⟩ = some (.int .i64 q) := HP.out.pg.cell 0 (by decide)
            have HVR := Lib.hid (HV.out.only HP.out.only (fun k hk => by have := HBL.out; omega) (fun k hk h => by have := HLX.out k hk; omega) (fun h => by have := HPB4.out; omega) (fun D hD h => by have := HLD.out D hD; omega))
            have kb : wr.cell? ⟨pb, 0, none⟩ = some (.pointer (some ⟨d, 0, none⟩)) := HVR.out.box.cell 0 (by decide)
            clear cy0 cy1 cy2 cz0 cz1 cz2 cn
            by_cases hlq : q < y1 + y2
            · have hlqI : (q : Int) < (y1 : Int) + (y2 : Int) := by omega
              gi_wp2_with (fail)
              refine ⟨trivial, fun _ => by omega, (CallsIn.inRound l (callsIn_wide.2 (ok.rights (q : Int) HVR.out.is HVR.out.at'))).mono ?_⟩
              rw [rgV_at (show q < 1024 by omega)]
              rintro e V2 ⟨rfl, hb⟩
              have HP2 := Lib.hid (HP.out.later hb)
              have kp2 : V2.cell? ⟨bl + 2, 0, none⟩ = some (.int .i64 q) := HP2.out.pg.cell 0 (by decide)
              have kf2 : V2.frozen? ⟨bl + 2, 0, none⟩ = false := HP2.out.pg.frozen 0
              have ky0 : V2.cell? ⟨zb, 0, none⟩ = some (.int .i64 y1) := HP2.out.only.cell (by omega) (HZ.out.cell 0 (by decide))
              have ky2 : V2.cell? ⟨zb, 2, none⟩ = some (.int .u8 y3) := HP2.out.only.cell (by omega) (HZ.out.cell 2 (by decide))
              have HP3 := Lib.hid (HP2.out.step)
              have HCA := Lib.hid (show y1 + y2 - cntAt (V2.setCell ⟨bl + 2, 0, none⟩ (.int .i64 ((q : Int) + 1))) (bl + 2) < y1 + y2 - cntAt wr (bl + 2) from by
                rw [cntAt_of kp, cntAt_of (k := q + 1) (HP3.out.pg.cell 0 (by decide))]
                omega)
              clear hb kp kb hlqI
              by_cases hlo : q < y1
              · rw [HG0.out q hq1 hlo]
                have hloI : (q : Int) < (y1 : Int) := by omega
                gi_wp2_with (fail)
                exact ⟨⟨q + 1, by omega, by omega, HP3⟩, HCA.out⟩
              · rw [HG1.out q (by omega) (by omega)]
                rw [show (y3 != 0) = true from by simp; omega]
                have hloI : (y1 : Int) ≤ (q : Int) := by omega
                gi_wp2_with (fail)
                exact ⟨⟨q + 1, by omega, by omega, HP3⟩, HCA.out⟩
            · obtain rfl : q = y1 + y2 := by omega
              have Lz := Lib.hid (show (loadVar TRun ⟨zb, 0, none⟩).run Try.prog wr = .ok (.agg #[.int .i64 y1, .int .i64 y2, .int .u8 y3]) wr from load_run ky0 ky1 ky2)
              have HLASTR := Lib.hid (HLAST.out.only HP.out.only (by omega))
              have HCNR := Lib.hid (HCN.out.only HP.out.only (by omega))
              have kl0 : wr.cell? ⟨bl, 0, none⟩ = some (.int .i64 z1) := HLASTR.out.cell 0 (by decide)
              have kl1 : wr.cell? ⟨bl, 1, none⟩ = some (.int .i64 z2) := HLASTR.out.cell 1 (by decide)
              have kl2 : wr.cell? ⟨bl, 2, none⟩ = some (.int .u8 z3) := HLASTR.out.cell 2 (by decide)
              have kf0 : wr.frozen? ⟨bl, 0, none⟩ = false := HLASTR.out.frozen 0
              have kf1 : wr.frozen? ⟨bl, 1, none⟩ = false := HLASTR.out.frozen 1
              have kf2 : wr.frozen? ⟨bl, 2, none⟩ = false := HLASTR.out.frozen 2
              have kn : wr.cell? ⟨bl + 1, 0, none⟩ = some (.int .i64 j) := HCNR.out.cell 0 (by decide)
              have kg : wr.frozen? ⟨bl + 1, 0, none⟩ = false := HCNR.out.frozen 0
              clear kb
              gi_wp2_with (fail)
              obtain ⟨n1, n2⟩ := RnAt.next (v := .int .i64 ((j : Int) + 1)) HLASTR.out HCNR.out HP.out HOI.out HLA.out rfl
              exact ⟨⟨n2.size, fun i o hB hi hc => (n2.block i (Array.getElem?_eq_some_iff.1 hi).1 (by omega)).trans hi⟩, HK0.out.trans (KpZ.of_only n2), by
                show RnAt W7 bl L (pre ++ [x]).length _
                rw [List.length_append, HJL.out]
                exact n1⟩
        · have u1 : 0 < (j : Int) := by omega
          have u2 : (z1 : Int) + (z2 : Int) = (y1 : Int) := by omega
          have u4 : (j : Int) < 32 := by have := HL32.out; omega
          have u3 : ((y3 : Int) == (z3 : Int)) = false := by simp; omega
          clear hB hC
          gi_wp2_with (fail)
          gi_loopw [] (fun wr => ∃ q : Nat, z1 + z2 ≤ q ∧ q ≤ y1 + y2 ∧ Hid (PgAt V (bl + 2) q wr)) (fun wr => y1 + y2 - cntAt wr (bl + 2))
          case atStart => exact ⟨z1 + z2, Nat.le_refl _, by omega, Lib.hid ⟨HEN.out, Only.refl _ _⟩⟩
          case round =>
            obtain ⟨q, hq1, hq2, HP⟩ := hrel
            have hszP := HP.out.only.size
            have hbV : bl + 2 < V.heap.size := by omega
            have ky0 : wr.cell? ⟨zb, 0, none⟩ = some (.int .i64 y1) := HP.out.only.cell (by omega) (HZ.out.cell 0 (by decide))
            have ky1 : wr.cell? ⟨zb, 1, none⟩ = some (.int .i64 y2) := HP.out.only.cell (by omega) (HZ.out.cell 1 (by decide))
            have ky2 : wr.cell? ⟨zb, 2, none⟩ = some (.int .u8 y3) := HP.out.only.cell (by omega) (HZ.out.cell 2 (by decide))
            have kp : wr.cell? ⟨bl + 2, 0, none⟩ = some (.int .i64 q) := HP.out.pg.cell 0 (by decide)
            have HVR := Lib.hid (HV.out.only HP.out.only (fun k hk => by have := HBL.out; omega) (fun k hk h => by have := HLX.out k hk; omega) (fun h => by have := HPB4.out; omega) (fun D hD h => by have := HLD.out D hD; omega))
            have kb : wr.cell? ⟨pb, 0, none⟩ = some (.pointer (some ⟨d, 0, none⟩)) := HVR.out.box.cell 0 (by decide)
            clear cy0 cy1 cy2 cz0 cz1 cz2 cn
            by_cases hlq : q < y1 + y2
            · have hlqI : (q : Int) < (y1 : Int) + (y2 : Int) := by omega
              gi_wp2_with (fail)
              refine ⟨trivial, fun _ => by omega, (CallsIn.inRound l (callsIn_wide.2 (ok.rights (q : Int) HVR.out.is HVR.out.at'))).mono ?_⟩
              rw [rgV_at (show q < 1024 by omega)]
              rintro e V2 ⟨rfl, hb⟩
              have HP2 := Lib.hid (HP.out.later hb)
              have kp2 : V2.cell? ⟨bl + 2, 0, none⟩ = some (.int .i64 q) := HP2.out.pg.cell 0 (by decide)
              have kf2 : V2.frozen? ⟨bl + 2, 0, none⟩ = false := HP2.out.pg.frozen 0
              have ky0 : V2.cell? ⟨zb, 0, none⟩ = some (.int .i64 y1) := HP2.out.only.cell (by omega) (HZ.out.cell 0 (by decide))
              have ky2 : V2.cell? ⟨zb, 2, none⟩ = some (.int .u8 y3) := HP2.out.only.cell (by omega) (HZ.out.cell 2 (by decide))
              have HP3 := Lib.hid (HP2.out.step)
              have HCA := Lib.hid (show y1 + y2 - cntAt (V2.setCell ⟨bl + 2, 0, none⟩ (.int .i64 ((q : Int) + 1))) (bl + 2) < y1 + y2 - cntAt wr (bl + 2) from by
                rw [cntAt_of kp, cntAt_of (k := q + 1) (HP3.out.pg.cell 0 (by decide))]
                omega)
              clear hb kp kb hlqI
              by_cases hlo : q < y1
              · exact absurd hlo (by omega)
              · rw [HG1.out q (by omega) (by omega)]
                rw [show (y3 != 0) = true from by simp; omega]
                have hloI : (y1 : Int) ≤ (q : Int) := by omega
                gi_wp2_with (fail)
                exact ⟨⟨q + 1, by omega, by omega, HP3⟩, HCA.out⟩
            · obtain rfl : q = y1 + y2 := by omega
              have Lz := Lib.hid (show (loadVar TRun ⟨zb, 0, none⟩).run Try.prog wr = .ok (.agg #[.int .i64 y1, .int .i64 y2, .int .u8 y3]) wr from load_run ky0 ky1 ky2)
              have HLASTR := Lib.hid (HLAST.out.only HP.out.only (by omega))
              have HCNR := Lib.hid (HCN.out.only HP.out.only (by omega))
              have kl0 : wr.cell? ⟨bl, 0, none⟩ = some (.int .i64 z1) := HLASTR.out.cell 0 (by decide)
              have kl1 : wr.cell? ⟨bl, 1, none⟩ = some (.int .i64 z2) := HLASTR.out.cell 1 (by decide)
              have kl2 : wr.cell? ⟨bl, 2, none⟩ = some (.int .u8 z3) := HLASTR.out.cell 2 (by decide)
              have kf0 : wr.frozen? ⟨bl, 0, none⟩ = false := HLASTR.out.frozen 0
              have kf1 : wr.frozen? ⟨bl, 1, none⟩ = false := HLASTR.out.frozen 1
              have kf2 : wr.frozen? ⟨bl, 2, none⟩ = false := HLASTR.out.frozen 2
              have kn : wr.cell? ⟨bl + 1, 0, none⟩ = some (.int .i64 j) := HCNR.out.cell 0 (by decide)
              have kg : wr.frozen? ⟨bl + 1, 0, none⟩ = false := HCNR.out.frozen 0
              clear kb
              gi_wp2_with (fail)
              obtain ⟨n1, n2⟩ := RnAt.next (v := .int .i64 ((j : Int) + 1)) HLASTR.out HCNR.out HP.out HOI.out HLA.out rfl
              exact ⟨⟨n2.size, fun i o hB hi hc => (n2.block i (Array.getElem?_eq_some_iff.1 hi).1 (by omega)).trans hi⟩, HK0.out.trans (KpZ.of_only n2), by
                show RnAt W7 bl L (pre ++ [x]).length _
                rw [List.length_append, HJL.out]
                exact n1⟩
      case done1 =>
        rintro D xs V hD hxs hI hDk
        have hxl : xs.length = L.length := by
          have := congrArg List.length hxs
          simpa using this
        rw [hxl] at hI
        have hsV := hI.only.size
        have hDn : D ∉ Ds := fun h => by have := HLD.out D h; omega
        have HA8 := Lib.hid ((HA7.out.only hI.only (fun k hk => by have := HBL.out; omega) (fun k hk h => by have := HLX.out k hk; omega) (fun h => by have := HPB4.out; omega) (fun E hE h => by have := HLD.out E hE; omega)).more hDn hDk
          (by have := HBL.out; omega) (fun h => by have := HLX.out D h; omega))
        have HCN8 := Lib.hid hI.cn
        have n32 : ¬ (32 < (L.length : Int)) := by have := HL32.out; omega
        have HBW := Lib.hid (show Below w.heap.size w V from HB1.out.trans (HA8.out.bel.mono (by omega)))
        have Ln := Lib.hid (show ∀ U, PbS w pb d U ∧ RowAt U (bl + 1) 1 (fun _ => .int .i64 L.length) → (loadVar 3 ⟨bl + 1, 0, none⟩).run Try.prog U = .ok (.int .i64 L.length) U from fun U hU => run_loadVar_cell (fun _ => by kernel_rfl) (hU.2.cell 0 (by decide)))
        have Lp := Lib.hid (show ∀ U, PbS w pb d U ∧ RowAt U (bl + 1) 1 (fun _ => .int .i64 L.length) → (loadVar 23 ⟨pb, 0, none⟩).run Try.prog U = .ok (.pointer (some ⟨d, 0, none⟩)) U from fun U hU => hU.1.load)
        clear hsq1 hI hxs hxl hDk HA7 HR0 HT1 HENT1 HSTEP
        go_wp2_with (fail)
        refine wp_region_lex1 (fun U => PbS w pb d U ∧ RowAt U (bl + 1) 1 (fun _ => .int .i64 L.length)) [(0, false), (1, false), (2, true), (3, false), (4, false), (5, false), (6, false), (7, false)]
          (by kernel_rfl) (by kernel_rfl) rfl (by kernel_rfl) ⟨⟨HBW.out.trans ((Below.refl w.heap.size V).drew), (HA8.out.later (Below.refl _ V).drew).box⟩, HCN8.out.later (Below.refl _ V).drew⟩ ?_
        intro W8 hW8 hK8
        have HA9 := Lib.hid (show RuAt IsA w1 pb d g Z (D :: Ds) W8 by rw [hW8]; exact HA8.out.later (Below.refl _ V).drew)
        have HCN9 := Lib.hid hK8.2
        clear hW8 hK8 HA8 HCN8 HBW
        refine lexH_load rfl rfl _ _ rfl rfl Ln.out ?_
        simp only [List.getElem_toArray, List.getElem_cons_zero, Act.put, List.setIfInBounds_toArray, List.set_cons_zero, List.set_cons_succ]
        refine lexH_load rfl rfl _ _ rfl rfl Lp.out ?_
        simp only [List.getElem_toArray, List.getElem_cons_succ, List.getElem_cons_zero, Act.put, List.setIfInBounds_toArray, List.set_cons_zero, List.set_cons_succ]
        refine lexH_call 24 #[.pointer (some ⟨d, 0, none⟩)] rfl rfl ?_ ?_
        focus (go_simp; done)
        refine (ok.len HA9.out.is HA9.out.at').mono ?_
        rintro e W9 ⟨rfl, hb⟩
        rw [show rns g = L from HLL.out]
        have HA10 := Lib.hid (HA9.out.later hb)
        refine ⟨_, rfl, ⟨⟨HB1.out.trans (HA10.out.bel.mono (by omega)), HA10.out.box⟩, HCN9.out.later hb⟩, ?_⟩
        clear hb HA9 HCN9
        simp only [List.getElem_toArray, List.getElem_cons_succ, List.getElem_cons_zero, Act.put, List.setIfInBounds_toArray, List.set_cons_zero, List.set_cons_succ]
        refine lexH_yieldE rfl rfl ?_
        apply Exists.intro
        refine ⟨fun W hW => ?_, ?_⟩
        focus (go_simp; exact rfl)
        simp only [List.getElem_toArray, List.getElem_cons_succ, List.getElem_cons_zero, Act.put, List.setIfInBounds_toArray, List.set_cons_zero, List.set_cons_succ]
        refine lexH_yieldE rfl rfl ?_
        apply Exists.intro
        refine ⟨fun W hW => ?_, ?_⟩
        focus (go_simp; exact rfl)
        simp only [List.getElem_toArray, List.getElem_cons_succ, List.getElem_cons_zero, Act.put, List.setIfInBounds_toArray, List.set_cons_zero, List.set_cons_succ]
        refine lexH_load rfl rfl _ _ rfl rfl Ln.out ?_
        simp only [List.getElem_toArray, List.getElem_cons_succ, List.getElem_cons_zero, Act.put, List.setIfInBounds_toArray, List.set_cons_zero, List.set_cons_succ]
        refine lexH_yieldE rfl rfl ?_
        apply Exists.intro
        refine ⟨fun W hW => ?_, ?_⟩
        focus (go_simp; exact rfl)
        simp only [List.getElem_toArray, List.getElem_cons_succ, List.getElem_cons_zero, Act.put, List.setIfInBounds_toArray, List.set_cons_zero, List.set_cons_succ]
        refine lexH_yieldE rfl rfl ?_
        apply Exists.intro
        refine ⟨fun W hW => ?_, ?_⟩
        focus (go_simp; exact rfl)
        simp only [List.getElem_toArray, List.getElem_cons_succ, List.getElem_cons_zero, Act.put, List.setIfInBounds_toArray, List.set_cons_zero, List.set_cons_succ]
        refine lexH_nil ?_
        clear Ln Lp
        go_wp2_with (fail)
        exact ⟨len - (k + 1), by omega, k + 1, g, Z, D :: Ds, rfl, hlt, rfl, rfl, rfl, rfl, rfl, rfl, rfl, HA10.out⟩
    · obtain rfl : k = len := by omega
      go_wp2_with (fail)
      refine (known_any ok _).mono ?_
      rintro e w4 ⟨rfl, hb⟩
      have HA4 := Lib.hid (HA.out.later hb)
      have HRC4 := Lib.hid (HRC.out.below HA4.out.bel (by omega))
      clear hb HA
      have cr : w4.cell? ⟨w.heap.size, 0, none⟩ = some (.bool false) := HRC4.out.cell 0 (by decide)
      have fr : w4.frozen? ⟨w.heap.size, 0, none⟩ = false := HRC4.out.frozen 0
      have HRC5 := Lib.hid (HRC4.out.setCell 0 (.bool true))
      have HB5 := Lib.hid ((HB1.out.trans (HA4.out.bel.mono (by omega))).setCell (p := ⟨w.heap.size, 0, none⟩) (Nat.le_refl _) (.bool true))
      go_wp2_with (fail)
      have hDs : ∀ D ∈ Ds, w.heap.size ≠ D := fun D hD e => by have := (HA4.out.ds D hD).2.1; omega
      refine leaves_many Ds _ HA4.out.nd (fun D hD => ?_) (fun W' ho2 hs2 => ⟨.bool true, ?_, rfl, ?_⟩)
      · rw [Below.heap_setCell _ _ _ _ (fun e => hDs D hD e.symm)]
        exact (HA4.out.ds D hD).1
      · have hc := ho2.cell (b := w.heap.size) (o := 0) (v := .bool true) (fun hD => hDs _ hD rfl) (HRC5.out.cell 0 (by decide))
        simp [results, Try.f5, go_sem, hc]
      · exact ho2.below HB5.out HB5.out.size (fun D hD => by have := (HA4.out.ds D hD).2.1; omega)
  · have hlenI : 150 < (len : Int) := by omega
    have hb : Below w1.heap.size w1 w2 := HT.out.only.below (Below.refl _ _) (Nat.le_refl _) (fun k h => False.elim h)
    have hb2 : Below w2.heap.size w2 (w2.alloc (.cells #[.pointer (some ⟨d, 0, none⟩)] 23)) := (Below.refl _ _).alloc (Nat.le_refl _) _
    have HB3 := Lib.hid (show Below w.heap.size w (w2.alloc (.cells #[.pointer (some ⟨d, 0, none⟩)] 23)) from (HB1.out.trans (hb.mono (by omega))).trans (hb2.mono (by omega)))
    have HRC3 := Lib.hid ((HRC.out.later hb).later hb2)
    clear hb hb2 HT HY HRC
    go_wp2_with (fail)
    generalize w2.alloc (.cells #[.pointer (some ⟨d, 0, none⟩)] 23) = w3 at *
    refine (known_any ok _).mono ?_
    rintro e w4 ⟨rfl, hb⟩
    have HB4 := Lib.hid (HB3.out.trans (hb.mono HB3.out.size))
    have HRC4 := Lib.hid (HRC3.out.later hb)
    clear hb
    have cr : w4.cell? ⟨w.heap.size, 0, none⟩ = some (.bool false) := HRC4.out.cell 0 (by decide)
    have fr : w4.frozen? ⟨w.heap.size, 0, none⟩ = false := HRC4.out.frozen 0
    have HRC5 := Lib.hid (HRC4.out.setCell 0 (.bool true))
    have HB5 := Lib.hid (HB4.out.setCell (p := ⟨w.heap.size, 0, none⟩) (Nat.le_refl _) (.bool true))
    go_wp2_with (fail)
    refine ⟨.bool true, ?_, rfl, HB5.out⟩
    have hc := HRC5.out.cell 0 (by decide)
    simp [results, Try.f5, go_sem, hc, updV]
theorem lawARuns_any (a : Option Addr) (len cap : Nat) (O : Nat → OpA) (w : World) (hO : OpsAt w a len O) :
    Calls Try.prog 5 #[.slice a len cap] w fun e w' => e = .returned (.bool true) ∧ Below w.heap.size w w' :=
  callsIn_wide.1 (lawARuns_in ok 8 (Nat.le_refl _) a len cap O w hO)
end
end Go.Proofs.Ythnkbipdlepbaaa
