/-
  calls, the document's Wrong, kind by kind.
-/
import Derived.Test.YtkmjkkeldbocdaaDoorM01
namespace Go.Proofs.YtkmjkkeldbocdaaDoor
open Go.RowKit Go
attribute [local go_sem] Oper.semAt_some

set_option maxRecDepth 100000 in
set_option maxHeartbeats 8000000 in
theorem wr16_any {A : Array Value} {g : Nat → Int} {q : CallM} {a : Option Addr} {n c : Nat} {x : Nat → UInt8} {w : World} (hA : Cfg A g) (hI : CsIn q n) (S : Src w a n x) (hk : q.kind = 16) (hg : mayB g = true) (hm : mayC q n = true) :
    Calls Tryd.prog 24 #[.agg A, .agg (q.cells a n c)] w fun e w' => e = .returned (.bool (wrongC g q n)) ∧ Below w.heap.size w w' := by
  have HB0 := Lib.hid (wrb_new w hA q a n c)
  have HA := Lib.hid hA
  have HS := Lib.hid S
  have HRM := Lib.hid (fun W => refmay_any A g W hA)
  have HCM := Lib.hid (fun W (hS : Src W a n x) => cmay_any q hI.ok a n c x hI.n W hS)
  rw [hg] at HRM
  rw [hm] at HCM
  have HK := Lib.hid hk
  have HSZ := Lib.hid (show sizeC q n = q.size from by unfold sizeC; rw [hk]; rfl)
  have HBK := Lib.hid (show wrongC g q n = decide (q.page < 0 ∨ 1023 < q.page) from by rw [wrongC_bad hg hm]; unfold badC; rw [hk]; rfl)
  have HI := Lib.hid hI
  have HQM := Lib.hid (fun W => rmayP_any A g q.pk q.pm hI.ok.pk hI.ok.pm W hA)
  have hkI : (q.kind : Int) = 16 := by omega
  have hsz1 := hI.size
  have had1 := hI.addr
  have hnb : (n : Int) ≤ 2000 := by have := hI.n; omega
  clear hA S hk hg hm hI
  go_enter Tryd.func24, Tryd.ntmps24
  have C0 := HB0.out.cfg
  go_wp2_with (refine wpList_load_cfg rfl _ rfl _ rfl C0 ?_)
  generalize hwb : (w.alloc (.cells A 50)).alloc (.cells (q.cells a n c) 29) = wb at *
  refine (HRM.out _).mono ?_
  rintro e w1 ⟨rfl, hb⟩
  have HB1 := Lib.hid (HB0.out.later hb)
  have K1 := HB1.out.blk
  clear hb C0 hwb
  go_wp2_with (refine wpList_load_call rfl _ rfl _ rfl K1 ?_)
  refine (HCM.out _ (HS.out.later (HB1.out.bel.mono (Nat.le_refl _)))).mono ?_
  rintro e w2 ⟨rfl, hb⟩
  have HB2 := Lib.hid (HB1.out.later hb)
  have c2 : w2.cell? ⟨w.heap.size + 1, 2, none⟩ = some (.int .i64 q.node) := HB2.out.cell 2 _ rfl
  have g0 := HB2.out.cfg.cell 0 (by decide)
  clear hb K1 HRM HCM HB0 HB1
  generalize hpb : w.heap.size + 1 = pb at *
  go_upto_region 3 with (fail)
  go_cut [5] (fun v wc => v = .bool (nodeC g q) ∧ wc = w2)
  case first =>
    by_cases h1 : q.node < 0
    · have HN := Lib.hid (show nodeC g q = true from decide_eq_true (.inl h1))
      go_wp2_with (fail)
      go_meet
      exact ⟨by rw [HN.out], rfl⟩
    · by_cases h2 : g 0 ≤ q.node
      · have HN := Lib.hid (show nodeC g q = true from decide_eq_true (.inr h2))
        go_wp2_with (fail)
        go_meet
        exact ⟨by rw [HN.out], rfl⟩
      · have HN := Lib.hid (show nodeC g q = false from decide_eq_false (fun h => h.elim h1 h2))
        go_wp2_with (fail)
        go_meet
        exact ⟨by rw [HN.out], rfl⟩
  case rest =>
    obtain ⟨rfl, hwc⟩ := hcut
    have hwc := hwc.symm
    subst hwc
    clear c2 g0
    have c3 : w2.cell? ⟨w.heap.size + 1, 3, none⟩ = some (.int .i64 q.page) := HB2.out.cell 3 _ rfl
    have c4 : w2.cell? ⟨w.heap.size + 1, 4, none⟩ = some (.int .i64 q.count) := HB2.out.cell 4 _ rfl
    have c6 : w2.cell? ⟨w.heap.size + 1, 6, none⟩ = some (.int .i64 q.size) := HB2.out.cell 6 _ rfl
    have c0 : w2.cell? ⟨w.heap.size + 1, 0, none⟩ = some (.int .u8 (q.kind : Int)) := HB2.out.cell 0 _ rfl
    have c11 : w2.cell? ⟨w.heap.size + 1, 11, none⟩ = some (.slice a n c) := HB2.out.cell 11 _ rfl
    rw [hpb] at c3 c4 c6 c0 c11
    rw [hkI] at c0
    obtain ⟨pg, hpg⟩ : ∃ b, decide (PgsR q.page q.count) = b := ⟨_, rfl⟩
    have HPG := Lib.hid (fun W => pgs_any q.page q.count W)
    rw [hpg] at HPG
    have HPB := Lib.hid (show pagesC q = !pg from by unfold pagesC; rw [hpg])
    clear hpg
    obtain ⟨nd, hnd⟩ : ∃ b, nodeC g q = b := ⟨_, rfl⟩
    rw [hnd]
    have HND := Lib.hid hnd
    clear hnd
    go_wp2_with (fail)
    refine (HPG.out _).mono ?_
    rintro e w3 ⟨rfl, rfl⟩
    clear HPG c3 c4
    go_upto_region 8 with (fail)
    go_cut [8] (fun v wc => v = .bool (fewC q n) ∧ wc = w2)
    case first =>
      clear c6 c0 c11
      by_cases h1 : q.size < 1
      · have HN := Lib.hid (show fewC q n = true from by unfold fewC; rw [HSZ.out]; exact decide_eq_true (.inl h1))
        go_wp2_with (fail)
        go_meet
        exact ⟨by rw [HN.out], rfl⟩
      · by_cases h2 : 8 < q.size
        · have HN := Lib.hid (show fewC q n = true from by unfold fewC; rw [HSZ.out]; exact decide_eq_true (.inr h2))
          go_wp2_with (fail)
          go_meet
          exact ⟨by rw [HN.out], rfl⟩
        · have HN := Lib.hid (show fewC q n = false from by unfold fewC; rw [HSZ.out]; exact decide_eq_false (fun h => h.elim h1 h2))
          go_wp2_with (fail)
          go_meet
          exact ⟨by rw [HN.out], rfl⟩
    case rest =>
      obtain ⟨rfl, hwc⟩ := hcut
      have hwc := hwc.symm
      subst hwc
      clear c6 c11
      obtain ⟨fw, hfw⟩ : ∃ b, fewC q n = b := ⟨_, rfl⟩
      rw [hfw]
      have HFW := Lib.hid hfw
      clear hfw
      have c3 : w2.cell? ⟨w.heap.size + 1, 3, none⟩ = some (.int .i64 q.page) := HB2.out.cell 3 _ rfl
      rw [hpb] at c3
      by_cases r1 : q.page < 0
      · have HE := Lib.hid (show decide (q.page < 0 ∨ 1023 < q.page) = true from decide_eq_true (.inl r1))
        go_wp2_with (fail)
        go_ret
        rw [HBK.out, HE.out]
        exact ⟨rfl, HB2.out.bel⟩
      · have HE := Lib.hid (show decide (q.page < 0 ∨ 1023 < q.page) = decide (1023 < q.page) from decide_eq_decide.2 ⟨fun h => h.resolve_left r1, .inr⟩)
        go_wp2_with (fail)
        go_ret
        rw [HBK.out, HE.out]
        exact ⟨rfl, HB2.out.bel⟩
set_option maxRecDepth 100000 in
set_option maxHeartbeats 8000000 in
theorem wr17_any {A : Array Value} {g : Nat → Int} {q : CallM} {a : Option Addr} {n c : Nat} {x : Nat → UInt8} {w : World} (hA : Cfg A g) (hI : CsIn q n) (S : Src w a n x) (hk : q.kind = 17) (hg : mayB g = true) (hm : mayC q n = true) :
    Calls Tryd.prog 24 #[.agg A, .agg (q.cells a n c)] w fun e w' => e = .returned (.bool (wrongC g q n)) ∧ Below w.heap.size w w' := by
  have HB0 := Lib.hid (wrb_new w hA q a n c)
  have HA := Lib.hid hA
  have HS := Lib.hid S
  have HRM := Lib.hid (fun W => refmay_any A g W hA)
  have HCM := Lib.hid (fun W (hS : Src W a n x) => cmay_any q hI.ok a n c x hI.n W hS)
  rw [hg] at HRM
  rw [hm] at HCM
  have HK := Lib.hid hk
  have HSZ := Lib.hid (show sizeC q n = q.size from by unfold sizeC; rw [hk]; rfl)
  have HBK := Lib.hid (show wrongC g q n = decide (q.page < 0 ∨ 1023 < q.page) from by rw [wrongC_bad hg hm]; unfold badC; rw [hk]; rfl)
  have HI := Lib.hid hI
  have HQM := Lib.hid (fun W => rmayP_any A g q.pk q.pm hI.ok.pk hI.ok.pm W hA)
  have hkI : (q.kind : Int) = 17 := by omega
  have hsz1 := hI.size
  have had1 := hI.addr
  have hnb : (n : Int) ≤ 2000 := by have := hI.n; omega
  clear hA S hk hg hm hI
  go_enter Tryd.func24, Tryd.ntmps24
  have C0 := HB0.out.cfg
  go_wp2_with (refine wpList_load_cfg rfl _ rfl _ rfl C0 ?_)
  generalize hwb : (w.alloc (.cells A 50)).alloc (.cells (q.cells a n c) 29) = wb at *
  refine (HRM.out _).mono ?_
  rintro e w1 ⟨rfl, hb⟩
  have HB1 := Lib.hid (HB0.out.later hb)
  have K1 := HB1.out.blk
  clear hb C0 hwb
  go_wp2_with (refine wpList_load_call rfl _ rfl _ rfl K1 ?_)
  refine (HCM.out _ (HS.out.later (HB1.out.bel.mono (Nat.le_refl _)))).mono ?_
  rintro e w2 ⟨rfl, hb⟩
  have HB2 := Lib.hid (HB1.out.later hb)
  have c2 : w2.cell? ⟨w.heap.size + 1, 2, none⟩ = some (.int .i64 q.node) := HB2.out.cell 2 _ rfl
  have g0 := HB2.out.cfg.cell 0 (by decide)
  clear hb K1 HRM HCM HB0 HB1
  generalize hpb : w.heap.size + 1 = pb at *
  go_upto_region 3 with (fail)
  go_cut [5] (fun v wc => v = .bool (nodeC g q) ∧ wc = w2)
  case first =>
    by_cases h1 : q.node < 0
    · have HN := Lib.hid (show nodeC g q = true from decide_eq_true (.inl h1))
      go_wp2_with (fail)
      go_meet
      exact ⟨by rw [HN.out], rfl⟩
    · by_cases h2 : g 0 ≤ q.node
      · have HN := Lib.hid (show nodeC g q = true from decide_eq_true (.inr h2))
        go_wp2_with (fail)
        go_meet
        exact ⟨by rw [HN.out], rfl⟩
      · have HN := Lib.hid (show nodeC g q = false from decide_eq_false (fun h => h.elim h1 h2))
        go_wp2_with (fail)
        go_meet
        exact ⟨by rw [HN.out], rfl⟩
  case rest =>
    obtain ⟨rfl, hwc⟩ := hcut
    have hwc := hwc.symm
    subst hwc
    clear c2 g0
    have c3 : w2.cell? ⟨w.heap.size + 1, 3, none⟩ = some (.int .i64 q.page) := HB2.out.cell 3 _ rfl
    have c4 : w2.cell? ⟨w.heap.size + 1, 4, none⟩ = some (.int .i64 q.count) := HB2.out.cell 4 _ rfl
    have c6 : w2.cell? ⟨w.heap.size + 1, 6, none⟩ = some (.int .i64 q.size) := HB2.out.cell 6 _ rfl
    have c0 : w2.cell? ⟨w.heap.size + 1, 0, none⟩ = some (.int .u8 (q.kind : Int)) := HB2.out.cell 0 _ rfl
    have c11 : w2.cell? ⟨w.heap.size + 1, 11, none⟩ = some (.slice a n c) := HB2.out.cell 11 _ rfl
    rw [hpb] at c3 c4 c6 c0 c11
    rw [hkI] at c0
    obtain ⟨pg, hpg⟩ : ∃ b, decide (PgsR q.page q.count) = b := ⟨_, rfl⟩
    have HPG := Lib.hid (fun W => pgs_any q.page q.count W)
    rw [hpg] at HPG
    have HPB := Lib.hid (show pagesC q = !pg from by unfold pagesC; rw [hpg])
    clear hpg
    obtain ⟨nd, hnd⟩ : ∃ b, nodeC g q = b := ⟨_, rfl⟩
    rw [hnd]
    have HND := Lib.hid hnd
    clear hnd
    go_wp2_with (fail)
    refine (HPG.out _).mono ?_
    rintro e w3 ⟨rfl, rfl⟩
    clear HPG c3 c4
    go_upto_region 8 with (fail)
    go_cut [8] (fun v wc => v = .bool (fewC q n) ∧ wc = w2)
    case first =>
      clear c6 c0 c11
      by_cases h1 : q.size < 1
      · have HN := Lib.hid (show fewC q n = true from by unfold fewC; rw [HSZ.out]; exact decide_eq_true (.inl h1))
        go_wp2_with (fail)
        go_meet
        exact ⟨by rw [HN.out], rfl⟩
      · by_cases h2 : 8 < q.size
        · have HN := Lib.hid (show fewC q n = true from by unfold fewC; rw [HSZ.out]; exact decide_eq_true (.inr h2))
          go_wp2_with (fail)
          go_meet
          exact ⟨by rw [HN.out], rfl⟩
        · have HN := Lib.hid (show fewC q n = false from by unfold fewC; rw [HSZ.out]; exact decide_eq_false (fun h => h.elim h1 h2))
          go_wp2_with (fail)
          go_meet
          exact ⟨by rw [HN.out], rfl⟩
    case rest =>
      obtain ⟨rfl, hwc⟩ := hcut
      have hwc := hwc.symm
      subst hwc
      clear c6 c11
      obtain ⟨fw, hfw⟩ : ∃ b, fewC q n = b := ⟨_, rfl⟩
      rw [hfw]
      have HFW := Lib.hid hfw
      clear hfw
      have c3 : w2.cell? ⟨w.heap.size + 1, 3, none⟩ = some (.int .i64 q.page) := HB2.out.cell 3 _ rfl
      rw [hpb] at c3
      by_cases r1 : q.page < 0
      · have HE := Lib.hid (show decide (q.page < 0 ∨ 1023 < q.page) = true from decide_eq_true (.inl r1))
        go_wp2_with (fail)
        go_ret
        rw [HBK.out, HE.out]
        exact ⟨rfl, HB2.out.bel⟩
      · have HE := Lib.hid (show decide (q.page < 0 ∨ 1023 < q.page) = decide (1023 < q.page) from decide_eq_decide.2 ⟨fun h => h.resolve_left r1, .inr⟩)
        go_wp2_with (fail)
        go_ret
        rw [HBK.out, HE.out]
        exact ⟨rfl, HB2.out.bel⟩
set_option maxRecDepth 100000 in
set_option maxHeartbeats 8000000 in
theorem wr18_any {A : Array Value} {g : Nat → Int} {q : CallM} {a : Option Addr} {n c : Nat} {x : Nat → UInt8} {w : World} (hA : Cfg A g) (hI : CsIn q n) (S : Src w a n x) (hk : q.kind = 18) (hg : mayB g = true) (hm : mayC q n = true) :
    Calls Tryd.prog 24 #[.agg A, .agg (q.cells a n c)] w fun e w' => e = .returned (.bool (wrongC g q n)) ∧ Below w.heap.size w w' := by
  have HB0 := Lib.hid (wrb_new w hA q a n c)
  have HA := Lib.hid hA
  have HS := Lib.hid S
  have HRM := Lib.hid (fun W => refmay_any A g W hA)
  have HCM := Lib.hid (fun W (hS : Src W a n x) => cmay_any q hI.ok a n c x hI.n W hS)
  rw [hg] at HRM
  rw [hm] at HCM
  have HK := Lib.hid hk
  have HSZ := Lib.hid (show sizeC q n = q.size from by unfold sizeC; rw [hk]; rfl)
  have HBK := Lib.hid (show wrongC g q n = (pagesC q || nodeC g q) from by rw [wrongC_bad hg hm]; unfold badC; rw [hk]; rfl)
  have HI := Lib.hid hI
  have HQM := Lib.hid (fun W => rmayP_any A g q.pk q.pm hI.ok.pk hI.ok.pm W hA)
  have hkI : (q.kind : Int) = 18 := by omega
  have hsz1 := hI.size
  have had1 := hI.addr
  have hnb : (n : Int) ≤ 2000 := by have := hI.n; omega
  clear hA S hk hg hm hI
  go_enter Tryd.func24, Tryd.ntmps24
  have C0 := HB0.out.cfg
  go_wp2_with (refine wpList_load_cfg rfl _ rfl _ rfl C0 ?_)
  generalize hwb : (w.alloc (.cells A 50)).alloc (.cells (q.cells a n c) 29) = wb at *
  refine (HRM.out _).mono ?_
  rintro e w1 ⟨rfl, hb⟩
  have HB1 := Lib.hid (HB0.out.later hb)
  have K1 := HB1.out.blk
  clear hb C0 hwb
  go_wp2_with (refine wpList_load_call rfl _ rfl _ rfl K1 ?_)
  refine (HCM.out _ (HS.out.later (HB1.out.bel.mono (Nat.le_refl _)))).mono ?_
  rintro e w2 ⟨rfl, hb⟩
  have HB2 := Lib.hid (HB1.out.later hb)
  have c2 : w2.cell? ⟨w.heap.size + 1, 2, none⟩ = some (.int .i64 q.node) := HB2.out.cell 2 _ rfl
  have g0 := HB2.out.cfg.cell 0 (by decide)
  clear hb K1 HRM HCM HB0 HB1
  generalize hpb : w.heap.size + 1 = pb at *
  go_upto_region 3 with (fail)
  go_cut [5] (fun v wc => v = .bool (nodeC g q) ∧ wc = w2)
  case first =>
    by_cases h1 : q.node < 0
    · have HN := Lib.hid (show nodeC g q = true from decide_eq_true (.inl h1))
      go_wp2_with (fail)
      go_meet
      exact ⟨by rw [HN.out], rfl⟩
    · by_cases h2 : g 0 ≤ q.node
      · have HN := Lib.hid (show nodeC g q = true from decide_eq_true (.inr h2))
        go_wp2_with (fail)
        go_meet
        exact ⟨by rw [HN.out], rfl⟩
      · have HN := Lib.hid (show nodeC g q = false from decide_eq_false (fun h => h.elim h1 h2))
        go_wp2_with (fail)
        go_meet
        exact ⟨by rw [HN.out], rfl⟩
  case rest =>
    obtain ⟨rfl, hwc⟩ := hcut
    have hwc := hwc.symm
    subst hwc
    clear c2 g0
    have c3 : w2.cell? ⟨w.heap.size + 1, 3, none⟩ = some (.int .i64 q.page) := HB2.out.cell 3 _ rfl
    have c4 : w2.cell? ⟨w.heap.size + 1, 4, none⟩ = some (.int .i64 q.count) := HB2.out.cell 4 _ rfl
    have c6 : w2.cell? ⟨w.heap.size + 1, 6, none⟩ = some (.int .i64 q.size) := HB2.out.cell 6 _ rfl
    have c0 : w2.cell? ⟨w.heap.size + 1, 0, none⟩ = some (.int .u8 (q.kind : Int)) := HB2.out.cell 0 _ rfl
    have c11 : w2.cell? ⟨w.heap.size + 1, 11, none⟩ = some (.slice a n c) := HB2.out.cell 11 _ rfl
    rw [hpb] at c3 c4 c6 c0 c11
    rw [hkI] at c0
    obtain ⟨pg, hpg⟩ : ∃ b, decide (PgsR q.page q.count) = b := ⟨_, rfl⟩
    have HPG := Lib.hid (fun W => pgs_any q.page q.count W)
    rw [hpg] at HPG
    have HPB := Lib.hid (show pagesC q = !pg from by unfold pagesC; rw [hpg])
    clear hpg
    obtain ⟨nd, hnd⟩ : ∃ b, nodeC g q = b := ⟨_, rfl⟩
    rw [hnd]
    have HND := Lib.hid hnd
    clear hnd
    go_wp2_with (fail)
    refine (HPG.out _).mono ?_
    rintro e w3 ⟨rfl, rfl⟩
    clear HPG c3 c4
    go_upto_region 8 with (fail)
    go_cut [8] (fun v wc => v = .bool (fewC q n) ∧ wc = w2)
    case first =>
      clear c6 c0 c11
      by_cases h1 : q.size < 1
      · have HN := Lib.hid (show fewC q n = true from by unfold fewC; rw [HSZ.out]; exact decide_eq_true (.inl h1))
        go_wp2_with (fail)
        go_meet
        exact ⟨by rw [HN.out], rfl⟩
      · by_cases h2 : 8 < q.size
        · have HN := Lib.hid (show fewC q n = true from by unfold fewC; rw [HSZ.out]; exact decide_eq_true (.inr h2))
          go_wp2_with (fail)
          go_meet
          exact ⟨by rw [HN.out], rfl⟩
        · have HN := Lib.hid (show fewC q n = false from by unfold fewC; rw [HSZ.out]; exact decide_eq_false (fun h => h.elim h1 h2))
          go_wp2_with (fail)
          go_meet
          exact ⟨by rw [HN.out], rfl⟩
    case rest =>
      obtain ⟨rfl, hwc⟩ := hcut
      have hwc := hwc.symm
      subst hwc
      clear c6 c11
      obtain ⟨fw, hfw⟩ : ∃ b, fewC q n = b := ⟨_, rfl⟩
      rw [hfw]
      have HFW := Lib.hid hfw
      clear hfw
      cases pg with
      | false =>
        have HE := Lib.hid (show (pagesC q || nodeC g q) = true from by rw [HPB.out]; rfl)
        go_wp2_with (fail)
        go_ret
        rw [HBK.out, HE.out]
        exact ⟨rfl, HB2.out.bel⟩
      | true =>
        have HE := Lib.hid (show (pagesC q || nodeC g q) = nd from by rw [HPB.out, HND.out]; rfl)
        go_wp2_with (fail)
        go_ret
        rw [HBK.out, HE.out]
        exact ⟨rfl, HB2.out.bel⟩
set_option maxRecDepth 100000 in
set_option maxHeartbeats 8000000 in
theorem wr19_any {A : Array Value} {g : Nat → Int} {q : CallM} {a : Option Addr} {n c : Nat} {x : Nat → UInt8} {w : World} (hA : Cfg A g) (hI : CsIn q n) (S : Src w a n x) (hk : q.kind = 19) (hg : mayB g = true) (hm : mayC q n = true) :
    Calls Tryd.prog 24 #[.agg A, .agg (q.cells a n c)] w fun e w' => e = .returned (.bool (wrongC g q n)) ∧ Below w.heap.size w w' := by
  have HB0 := Lib.hid (wrb_new w hA q a n c)
  have HA := Lib.hid hA
  have HS := Lib.hid S
  have HRM := Lib.hid (fun W => refmay_any A g W hA)
  have HCM := Lib.hid (fun W (hS : Src W a n x) => cmay_any q hI.ok a n c x hI.n W hS)
  rw [hg] at HRM
  rw [hm] at HCM
  have HK := Lib.hid hk
  have HSZ := Lib.hid (show sizeC q n = q.size from by unfold sizeC; rw [hk]; rfl)
  have HBK := Lib.hid (show wrongC g q n = nodeC g q from by rw [wrongC_bad hg hm]; unfold badC; rw [hk]; rfl)
  have HI := Lib.hid hI
  have HQM := Lib.hid (fun W => rmayP_any A g q.pk q.pm hI.ok.pk hI.ok.pm W hA)
  have hkI : (q.kind : Int) = 19 := by omega
  have hsz1 := hI.size
  have had1 := hI.addr
  have hnb : (n : Int) ≤ 2000 := by have := hI.n; omega
  clear hA S hk hg hm hI
  go_enter Tryd.func24, Tryd.ntmps24
  have C0 := HB0.out.cfg
  go_wp2_with (refine wpList_load_cfg rfl _ rfl _ rfl C0 ?_)
  generalize hwb : (w.alloc (.cells A 50)).alloc (.cells (q.cells a n c) 29) = wb at *
  refine (HRM.out _).mono ?_
  rintro e w1 ⟨rfl, hb⟩
  have HB1 := Lib.hid (HB0.out.later hb)
  have K1 := HB1.out.blk
  clear hb C0 hwb
  go_wp2_with (refine wpList_load_call rfl _ rfl _ rfl K1 ?_)
  refine (HCM.out _ (HS.out.later (HB1.out.bel.mono (Nat.le_refl _)))).mono ?_
  rintro e w2 ⟨rfl, hb⟩
  have HB2 := Lib.hid (HB1.out.later hb)
  have c2 : w2.cell? ⟨w.heap.size + 1, 2, none⟩ = some (.int .i64 q.node) := HB2.out.cell 2 _ rfl
  have g0 := HB2.out.cfg.cell 0 (by decide)
  clear hb K1 HRM HCM HB0 HB1
  generalize hpb : w.heap.size + 1 = pb at *
  go_upto_region 3 with (fail)
  go_cut [5] (fun v wc => v = .bool (nodeC g q) ∧ wc = w2)
  case first =>
    by_cases h1 : q.node < 0
    · have HN := Lib.hid (show nodeC g q = true from decide_eq_true (.inl h1))
      go_wp2_with (fail)
      go_meet
      exact ⟨by rw [HN.out], rfl⟩
    · by_cases h2 : g 0 ≤ q.node
      · have HN := Lib.hid (show nodeC g q = true from decide_eq_true (.inr h2))
        go_wp2_with (fail)
        go_meet
        exact ⟨by rw [HN.out], rfl⟩
      · have HN := Lib.hid (show nodeC g q = false from decide_eq_false (fun h => h.elim h1 h2))
        go_wp2_with (fail)
        go_meet
        exact ⟨by rw [HN.out], rfl⟩
  case rest =>
    obtain ⟨rfl, hwc⟩ := hcut
    have hwc := hwc.symm
    subst hwc
    clear c2 g0
    have c3 : w2.cell? ⟨w.heap.size + 1, 3, none⟩ = some (.int .i64 q.page) := HB2.out.cell 3 _ rfl
    have c4 : w2.cell? ⟨w.heap.size + 1, 4, none⟩ = some (.int .i64 q.count) := HB2.out.cell 4 _ rfl
    have c6 : w2.cell? ⟨w.heap.size + 1, 6, none⟩ = some (.int .i64 q.size) := HB2.out.cell 6 _ rfl
    have c0 : w2.cell? ⟨w.heap.size + 1, 0, none⟩ = some (.int .u8 (q.kind : Int)) := HB2.out.cell 0 _ rfl
    have c11 : w2.cell? ⟨w.heap.size + 1, 11, none⟩ = some (.slice a n c) := HB2.out.cell 11 _ rfl
    rw [hpb] at c3 c4 c6 c0 c11
    rw [hkI] at c0
    obtain ⟨pg, hpg⟩ : ∃ b, decide (PgsR q.page q.count) = b := ⟨_, rfl⟩
    have HPG := Lib.hid (fun W => pgs_any q.page q.count W)
    rw [hpg] at HPG
    have HPB := Lib.hid (show pagesC q = !pg from by unfold pagesC; rw [hpg])
    clear hpg
    obtain ⟨nd, hnd⟩ : ∃ b, nodeC g q = b := ⟨_, rfl⟩
    rw [hnd]
    have HND := Lib.hid hnd
    clear hnd
    go_wp2_with (fail)
    refine (HPG.out _).mono ?_
    rintro e w3 ⟨rfl, rfl⟩
    clear HPG c3 c4
    go_upto_region 8 with (fail)
    go_cut [8] (fun v wc => v = .bool (fewC q n) ∧ wc = w2)
    case first =>
      clear c6 c0 c11
      by_cases h1 : q.size < 1
      · have HN := Lib.hid (show fewC q n = true from by unfold fewC; rw [HSZ.out]; exact decide_eq_true (.inl h1))
        go_wp2_with (fail)
        go_meet
        exact ⟨by rw [HN.out], rfl⟩
      · by_cases h2 : 8 < q.size
        · have HN := Lib.hid (show fewC q n = true from by unfold fewC; rw [HSZ.out]; exact decide_eq_true (.inr h2))
          go_wp2_with (fail)
          go_meet
          exact ⟨by rw [HN.out], rfl⟩
        · have HN := Lib.hid (show fewC q n = false from by unfold fewC; rw [HSZ.out]; exact decide_eq_false (fun h => h.elim h1 h2))
          go_wp2_with (fail)
          go_meet
          exact ⟨by rw [HN.out], rfl⟩
    case rest =>
      obtain ⟨rfl, hwc⟩ := hcut
      have hwc := hwc.symm
      subst hwc
      clear c6 c11
      obtain ⟨fw, hfw⟩ : ∃ b, fewC q n = b := ⟨_, rfl⟩
      rw [hfw]
      have HFW := Lib.hid hfw
      clear hfw
      go_wp2_with (fail)
      go_ret
      rw [HBK.out, HND.out]
      exact ⟨rfl, HB2.out.bel⟩
set_option maxRecDepth 100000 in
set_option maxHeartbeats 8000000 in
theorem wr20_any {A : Array Value} {g : Nat → Int} {q : CallM} {a : Option Addr} {n c : Nat} {x : Nat → UInt8} {w : World} (hA : Cfg A g) (hI : CsIn q n) (S : Src w a n x) (hk : q.kind = 20) (hg : mayB g = true) (hm : mayC q n = true) :
    Calls Tryd.prog 24 #[.agg A, .agg (q.cells a n c)] w fun e w' => e = .returned (.bool (wrongC g q n)) ∧ Below w.heap.size w w' := by
  have HB0 := Lib.hid (wrb_new w hA q a n c)
  have HA := Lib.hid hA
  have HS := Lib.hid S
  have HRM := Lib.hid (fun W => refmay_any A g W hA)
  have HCM := Lib.hid (fun W (hS : Src W a n x) => cmay_any q hI.ok a n c x hI.n W hS)
  rw [hg] at HRM
  rw [hm] at HCM
  have HK := Lib.hid hk
  have HSZ := Lib.hid (show sizeC q n = q.size from by unfold sizeC; rw [hk]; rfl)
  have HBK := Lib.hid (show wrongC g q n = nodeC g q from by rw [wrongC_bad hg hm]; unfold badC; rw [hk]; rfl)
  have HI := Lib.hid hI
  have HQM := Lib.hid (fun W => rmayP_any A g q.pk q.pm hI.ok.pk hI.ok.pm W hA)
  have hkI : (q.kind : Int) = 20 := by omega
  have hsz1 := hI.size
  have had1 := hI.addr
  have hnb : (n : Int) ≤ 2000 := by have := hI.n; omega
  clear hA S hk hg hm hI
  go_enter Tryd.func24, Tryd.ntmps24
  have C0 := HB0.out.cfg
  go_wp2_with (refine wpList_load_cfg rfl _ rfl _ rfl C0 ?_)
  generalize hwb : (w.alloc (.cells A 50)).alloc (.cells (q.cells a n c) 29) = wb at *
  refine (HRM.out _).mono ?_
  rintro e w1 ⟨rfl, hb⟩
  have HB1 := Lib.hid (HB0.out.later hb)
  have K1 := HB1.out.blk
  clear hb C0 hwb
  go_wp2_with (refine wpList_load_call rfl _ rfl _ rfl K1 ?_)
  refine (HCM.out _ (HS.out.later (HB1.out.bel.mono (Nat.le_refl _)))).mono ?_
  rintro e w2 ⟨rfl, hb⟩
  have HB2 := Lib.hid (HB1.out.later hb)
  have c2 : w2.cell? ⟨w.heap.size + 1, 2, none⟩ = some (.int .i64 q.node) := HB2.out.cell 2 _ rfl
  have g0 := HB2.out.cfg.cell 0 (by decide)
  clear hb K1 HRM HCM HB0 HB1
  generalize hpb : w.heap.size + 1 = pb at *
  go_upto_region 3 with (fail)
  go_cut [5] (fun v wc => v = .bool (nodeC g q) ∧ wc = w2)
  case first =>
    by_cases h1 : q.node < 0
    · have HN := Lib.hid (show nodeC g q = true from decide_eq_true (.inl h1))
      go_wp2_with (fail)
      go_meet
      exact ⟨by rw [HN.out], rfl⟩
    · by_cases h2 : g 0 ≤ q.node
      · have HN := Lib.hid (show nodeC g q = true from decide_eq_true (.inr h2))
        go_wp2_with (fail)
        go_meet
        exact ⟨by rw [HN.out], rfl⟩
      · have HN := Lib.hid (show nodeC g q = false from decide_eq_false (fun h => h.elim h1 h2))
        go_wp2_with (fail)
        go_meet
        exact ⟨by rw [HN.out], rfl⟩
  case rest =>
    obtain ⟨rfl, hwc⟩ := hcut
    have hwc := hwc.symm
    subst hwc
    clear c2 g0
    have c3 : w2.cell? ⟨w.heap.size + 1, 3, none⟩ = some (.int .i64 q.page) := HB2.out.cell 3 _ rfl
    have c4 : w2.cell? ⟨w.heap.size + 1, 4, none⟩ = some (.int .i64 q.count) := HB2.out.cell 4 _ rfl
    have c6 : w2.cell? ⟨w.heap.size + 1, 6, none⟩ = some (.int .i64 q.size) := HB2.out.cell 6 _ rfl
    have c0 : w2.cell? ⟨w.heap.size + 1, 0, none⟩ = some (.int .u8 (q.kind : Int)) := HB2.out.cell 0 _ rfl
    have c11 : w2.cell? ⟨w.heap.size + 1, 11, none⟩ = some (.slice a n c) := HB2.out.cell 11 _ rfl
    rw [hpb] at c3 c4 c6 c0 c11
    rw [hkI] at c0
    obtain ⟨pg, hpg⟩ : ∃ b, decide (PgsR q.page q.count) = b := ⟨_, rfl⟩
    have HPG := Lib.hid (fun W => pgs_any q.page q.count W)
    rw [hpg] at HPG
    have HPB := Lib.hid (show pagesC q = !pg from by unfold pagesC; rw [hpg])
    clear hpg
    obtain ⟨nd, hnd⟩ : ∃ b, nodeC g q = b := ⟨_, rfl⟩
    rw [hnd]
    have HND := Lib.hid hnd
    clear hnd
    go_wp2_with (fail)
    refine (HPG.out _).mono ?_
    rintro e w3 ⟨rfl, rfl⟩
    clear HPG c3 c4
    go_upto_region 8 with (fail)
    go_cut [8] (fun v wc => v = .bool (fewC q n) ∧ wc = w2)
    case first =>
      clear c6 c0 c11
      by_cases h1 : q.size < 1
      · have HN := Lib.hid (show fewC q n = true from by unfold fewC; rw [HSZ.out]; exact decide_eq_true (.inl h1))
        go_wp2_with (fail)
        go_meet
        exact ⟨by rw [HN.out], rfl⟩
      · by_cases h2 : 8 < q.size
        · have HN := Lib.hid (show fewC q n = true from by unfold fewC; rw [HSZ.out]; exact decide_eq_true (.inr h2))
          go_wp2_with (fail)
          go_meet
          exact ⟨by rw [HN.out], rfl⟩
        · have HN := Lib.hid (show fewC q n = false from by unfold fewC; rw [HSZ.out]; exact decide_eq_false (fun h => h.elim h1 h2))
          go_wp2_with (fail)
          go_meet
          exact ⟨by rw [HN.out], rfl⟩
    case rest =>
      obtain ⟨rfl, hwc⟩ := hcut
      have hwc := hwc.symm
      subst hwc
      clear c6 c11
      obtain ⟨fw, hfw⟩ : ∃ b, fewC q n = b := ⟨_, rfl⟩
      rw [hfw]
      have HFW := Lib.hid hfw
      clear hfw
      go_wp2_with (fail)
      go_ret
      rw [HBK.out, HND.out]
      exact ⟨rfl, HB2.out.bel⟩
set_option maxRecDepth 100000 in
set_option maxHeartbeats 8000000 in
theorem wr21_any {A : Array Value} {g : Nat → Int} {q : CallM} {a : Option Addr} {n c : Nat} {x : Nat → UInt8} {w : World} (hA : Cfg A g) (hI : CsIn q n) (S : Src w a n x) (hk : q.kind = 21) (hg : mayB g = true) (hm : mayC q n = true) :
    Calls Tryd.prog 24 #[.agg A, .agg (q.cells a n c)] w fun e w' => e = .returned (.bool (wrongC g q n)) ∧ Below w.heap.size w w' := by
  have HB0 := Lib.hid (wrb_new w hA q a n c)
  have HA := Lib.hid hA
  have HS := Lib.hid S
  have HRM := Lib.hid (fun W => refmay_any A g W hA)
  have HCM := Lib.hid (fun W (hS : Src W a n x) => cmay_any q hI.ok a n c x hI.n W hS)
  rw [hg] at HRM
  rw [hm] at HCM
  have HK := Lib.hid hk
  have HSZ := Lib.hid (show sizeC q n = q.size from by unfold sizeC; rw [hk]; rfl)
  have HBK := Lib.hid (show wrongC g q n = false from by rw [wrongC_bad hg hm]; unfold badC; rw [hk]; rfl)
  have HI := Lib.hid hI
  have HQM := Lib.hid (fun W => rmayP_any A g q.pk q.pm hI.ok.pk hI.ok.pm W hA)
  have hkI : (q.kind : Int) = 21 := by omega
  have hsz1 := hI.size
  have had1 := hI.addr
  have hnb : (n : Int) ≤ 2000 := by have := hI.n; omega
  clear hA S hk hg hm hI
  go_enter Tryd.func24, Tryd.ntmps24
  have C0 := HB0.out.cfg
  go_wp2_with (refine wpList_load_cfg rfl _ rfl _ rfl C0 ?_)
  generalize hwb : (w.alloc (.cells A 50)).alloc (.cells (q.cells a n c) 29) = wb at *
  refine (HRM.out _).mono ?_
  rintro e w1 ⟨rfl, hb⟩
  have HB1 := Lib.hid (HB0.out.later hb)
  have K1 := HB1.out.blk
  clear hb C0 hwb
  go_wp2_with (refine wpList_load_call rfl _ rfl _ rfl K1 ?_)
  refine (HCM.out _ (HS.out.later (HB1.out.bel.mono (Nat.le_refl _)))).mono ?_
  rintro e w2 ⟨rfl, hb⟩
  have HB2 := Lib.hid (HB1.out.later hb)
  have c2 : w2.cell? ⟨w.heap.size + 1, 2, none⟩ = some (.int .i64 q.node) := HB2.out.cell 2 _ rfl
  have g0 := HB2.out.cfg.cell 0 (by decide)
  clear hb K1 HRM HCM HB0 HB1
  generalize hpb : w.heap.size + 1 = pb at *
  go_upto_region 3 with (fail)
  go_cut [5] (fun v wc => v = .bool (nodeC g q) ∧ wc = w2)
  case first =>
    by_cases h1 : q.node < 0
    · have HN := Lib.hid (show nodeC g q = true from decide_eq_true (.inl h1))
      go_wp2_with (fail)
      go_meet
      exact ⟨by rw [HN.out], rfl⟩
    · by_cases h2 : g 0 ≤ q.node
      · have HN := Lib.hid (show nodeC g q = true from decide_eq_true (.inr h2))
        go_wp2_with (fail)
        go_meet
        exact ⟨by rw [HN.out], rfl⟩
      · have HN := Lib.hid (show nodeC g q = false from decide_eq_false (fun h => h.elim h1 h2))
        go_wp2_with (fail)
        go_meet
        exact ⟨by rw [HN.out], rfl⟩
  case rest =>
    obtain ⟨rfl, hwc⟩ := hcut
    have hwc := hwc.symm
    subst hwc
    clear c2 g0
    have c3 : w2.cell? ⟨w.heap.size + 1, 3, none⟩ = some (.int .i64 q.page) := HB2.out.cell 3 _ rfl
    have c4 : w2.cell? ⟨w.heap.size + 1, 4, none⟩ = some (.int .i64 q.count) := HB2.out.cell 4 _ rfl
    have c6 : w2.cell? ⟨w.heap.size + 1, 6, none⟩ = some (.int .i64 q.size) := HB2.out.cell 6 _ rfl
    have c0 : w2.cell? ⟨w.heap.size + 1, 0, none⟩ = some (.int .u8 (q.kind : Int)) := HB2.out.cell 0 _ rfl
    have c11 : w2.cell? ⟨w.heap.size + 1, 11, none⟩ = some (.slice a n c) := HB2.out.cell 11 _ rfl
    rw [hpb] at c3 c4 c6 c0 c11
    rw [hkI] at c0
    obtain ⟨pg, hpg⟩ : ∃ b, decide (PgsR q.page q.count) = b := ⟨_, rfl⟩
    have HPG := Lib.hid (fun W => pgs_any q.page q.count W)
    rw [hpg] at HPG
    have HPB := Lib.hid (show pagesC q = !pg from by unfold pagesC; rw [hpg])
    clear hpg
    obtain ⟨nd, hnd⟩ : ∃ b, nodeC g q = b := ⟨_, rfl⟩
    rw [hnd]
    have HND := Lib.hid hnd
    clear hnd
    go_wp2_with (fail)
    refine (HPG.out _).mono ?_
    rintro e w3 ⟨rfl, rfl⟩
    clear HPG c3 c4
    go_upto_region 8 with (fail)
    go_cut [8] (fun v wc => v = .bool (fewC q n) ∧ wc = w2)
    case first =>
      clear c6 c0 c11
      by_cases h1 : q.size < 1
      · have HN := Lib.hid (show fewC q n = true from by unfold fewC; rw [HSZ.out]; exact decide_eq_true (.inl h1))
        go_wp2_with (fail)
        go_meet
        exact ⟨by rw [HN.out], rfl⟩
      · by_cases h2 : 8 < q.size
        · have HN := Lib.hid (show fewC q n = true from by unfold fewC; rw [HSZ.out]; exact decide_eq_true (.inr h2))
          go_wp2_with (fail)
          go_meet
          exact ⟨by rw [HN.out], rfl⟩
        · have HN := Lib.hid (show fewC q n = false from by unfold fewC; rw [HSZ.out]; exact decide_eq_false (fun h => h.elim h1 h2))
          go_wp2_with (fail)
          go_meet
          exact ⟨by rw [HN.out], rfl⟩
    case rest =>
      obtain ⟨rfl, hwc⟩ := hcut
      have hwc := hwc.symm
      subst hwc
      clear c6 c11
      obtain ⟨fw, hfw⟩ : ∃ b, fewC q n = b := ⟨_, rfl⟩
      rw [hfw]
      have HFW := Lib.hid hfw
      clear hfw
      go_wp2_with (fail)
      go_ret
      rw [HBK.out]
      exact ⟨rfl, HB2.out.bel⟩
end Go.Proofs.YtkmjkkeldbocdaaDoor
