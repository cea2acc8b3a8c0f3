/-
  The walk of CallsOnly, for whatever calls.
-/
import Derived.Test.YtkmjkkeldbocdaaDoorCsLawReads
namespace Go.Proofs.YtkmjkkeldbocdaaDoor
open Go.RowKit Go
attribute [local go_sem] Oper.semAt_some

theorem wrap_in (z : Int) : -9223372036854775808 ≤ wrap64 z ∧ wrap64 z ≤ 9223372036854775807 := by
  unfold wrap64
  omega
theorem ofN_in {k n : Nat} {f : Nat → Nat} (h : (ofN k f).Ok) (hn : n ≤ 2000) : CsIn (ofN k f) n := by
  have z : (-9223372036854775808 : Int) ≤ 0 ∧ (0 : Int) ≤ 9223372036854775807 := by decide
  refine ⟨h, ?_, ?_, ?_, ?_, ?_, ?_, hn⟩ <;> (unfold ofN; split <;> first | exact z | exact wrap_in _)
theorem rd_facts {x : Nat → UInt8} {n : Nat} (h : okC x n = true) : CsIn (rdQ x n) (rdM x n) ∧ mayC (rdQ x n) (rdM x n) = true ∧ callL (rdQ x n) (rdY x n) (rdM x n) = lisX x n ∧ 8 ≤ n := by
  obtain ⟨h1, h2, h3, h4⟩ := okC_parts h
  have h5 := (okC_len h).1
  have h8 := (mayC_parts h3).2.1
  unfold rdQ rdM rdY
  rw [h, if_pos rfl, if_pos rfl]
  exact ⟨ofN_in (qX_ok h1) (by omega), h3, h4, h5⟩
theorem rr_facts {x : Nat → UInt8} {n : Nat} (h : okX x n = true) : rrM x n ≤ 2000 ∧ (-9223372036854775808 ≤ rrE x n ∧ rrE x n ≤ 9223372036854775807) ∧ rrV x n < 18446744073709551616 ∧ mayRs (rrE x n) (rrV x n) (rrM x n) = true ∧ resL (rrE x n).toNat (rrV x n) (shX x 24) (rrM x n) = lisX x n ∧ 24 ≤ n := by
  obtain ⟨h1, h2, h3, h4⟩ := okX_parts h
  obtain ⟨_, _, _, h8⟩ := mayRs_parts h3
  unfold rrE rrV rrM
  rw [h, if_pos rfl, if_pos rfl, if_pos rfl]
  exact ⟨by omega, ⟨by omega, by omega⟩, numX_lt .., h3, by rw [Int.toNat_natCast]; exact h4, h2⟩
theorem rdP_no {w w' : World} {n : Nat} {x : Nat → UInt8} {e : Ending} (hn : okC x n = false) (h : RdP w n x e w') : ∃ q : CallM, e = .returned (.tuple #[.agg (q.cells none 0 0), .int .i64 5]) ∧ Below w.heap.size w w' := by
  rcases h with ⟨h, _⟩ | ⟨_, rfl, hb⟩
  · rw [hn] at h; cases h
  · exact ⟨_, rfl, hb⟩
theorem rrP_no {w w' : World} {n : Nat} {x : Nat → UInt8} {e : Ending} (hn : okX x n = false) (h : RrP w n x e w') : ∃ (z : Int) (v : Nat), e = .returned (.tuple #[rsV z v none 0 0, .int .i64 5]) ∧ Below w.heap.size w w' := by
  rcases h with ⟨h, _⟩ | ⟨_, rfl, hb⟩
  · rw [hn] at h; cases h
  · exact ⟨0, 0, rfl, hb⟩
theorem only_less {x : Nat → UInt8} {n : Nat} (h : okC x n = true) : okC x (n - 1) = false := by
  cases h2 : okC x (n - 1) with
  | false => rfl
  | true =>
    have h8 := (okC_len h).1
    have := okC_unlike h2 (show n - 1 < n by omega) (fun _ _ => rfl)
    rw [h] at this
    cases this
theorem only_more {x : Nat → UInt8} {n : Nat} (b : UInt8) (h : okC x n = true) : okC (fun i => if i < n then x i else b) (n + 1) = false := okC_unlike h (Nat.lt_succ_self _) fun _ hi => if_pos hi
theorem res_less {x : Nat → UInt8} {n : Nat} (hn : n ≤ 100000) (h : okX x n = true) : okX x (n - 1) = false := by
  cases h2 : okX x (n - 1) with
  | false => rfl
  | true =>
    have h8 := (okX_len hn h).1
    have := okX_unlike hn h2 (show n - 1 < n by omega) (fun _ _ => rfl)
    rw [h] at this
    cases this
theorem res_more {x : Nat → UInt8} {n : Nat} (b : UInt8) (hn : n + 1 ≤ 100000) (h : okX x n = true) : okX (fun i => if i < n then x i else b) (n + 1) = false := okX_unlike hn h (Nat.lt_succ_self _) fun _ hi => if_pos hi
theorem strL_lisX (x : Nat → UInt8) (n : Nat) : strL (lisX x n) = strB n x := by
  unfold strL
  rw [lisX_len]
  exact strB_ext fun i hi => by rw [List.getD_eq_getElem?_getD, lisX_get hi]; rfl
theorem BytIn.less {w : World} {a : Option Addr} {n c : Nat} {x : Nat → UInt8} (h : BytIn w a n c x) : BytIn w a (n - 1) c x := by
  obtain ⟨S, h1, h2, h3⟩ := h
  refine ⟨fun h0 => ?_, by omega, h2, h3.imp (by omega) id⟩
  obtain ⟨ad, e, hc⟩ := S (by omega)
  exact ⟨ad, e, fun j hj => hc j (by omega)⟩
theorem more_one (b : UInt8) : ∀ u ∈ [Value.int .u8 (b.toNat : Int)], u.oneCell' = true := by
  intro u h
  rw [List.mem_singleton.1 h]
  rfl
theorem sub_less {w : World} {a : Option Addr} {n c : Nat} {x : Nat → UInt8} (h : BytIn w a n c x) (h1 : 1 ≤ n) (W : World) : (Instr.sliceAt 27 (.slice a n c) none (some (.int .i64 ((n : Int) - 1))) none).run Tryd.prog W = .ok (.slice a (n - 1) c) W := by
  obtain ⟨_, h2, h3, h4 | ⟨g, o, rfl⟩⟩ := h
  · omega
  · have e := run_sub_to (P := Tryd.prog) Tryd.underlying27 sizeB g o n c (n - 1) (by omega) W
    rw [show ((n - 1 : Nat) : Int) = (n : Int) - 1 by omega] at e
    exact e
/-- What lies there behind the first three statements. -/
structure OnB (w : World) (n : Nat) (x : Nat → UInt8) (b : UInt8) (g cap b5 b7 : Nat) (a5 a7 : Option Addr) (c5 c7 : Nat) (W : World) : Prop where
  sn : Snoc w n x b g cap W
  k5 : W.heap[b5]? = some (.cells ((rdQ x n).cells a5 (rdM x n) c5) 29 (0, 0))
  k7 : W.heap[b7]? = some (.cells (rsA (rrE x n) (rrV x n) a7 (rrM x n) c7) 41 (0, 0))
  s5 : Src W a5 (rdM x n) (rdY x n)
  s7 : Src W a7 (rrM x n) (shX x 24)
theorem OnB.later {w W W' : World} {n : Nat} {x : Nat → UInt8} {b : UInt8} {g cap b5 b7 : Nat} {a5 a7 : Option Addr} {c5 c7 : Nat} (h : OnB w n x b g cap b5 b7 a5 a7 c5 c7 W) (hb : Below W.heap.size W W') : OnB w n x b g cap b5 b7 a5 a7 c5 c7 W' :=
  ⟨h.sn.later hb, kept_at h.k5 hb, kept_at h.k7 hb, h.s5.later hb, h.s7.later hb⟩
section
variable {P : World → Prop} (ok : CsOk P)
include ok
set_option maxRecDepth 100000 in
set_option maxHeartbeats 32000000 in
theorem lonly_any {a : Option Addr} {n c : Nat} {x : Nat → UInt8} (b : UInt8) {w : World} (hP : P w) (hB : BytIn w a n c x) :
    Calls Tryd.prog 7 #[.slice a n c, .int .u8 (b.toNat : Int)] w fun e w' => e = .returned (.bool true) ∧ Below w.heap.size w w' := by
  have HP := Lib.hid hP
  clear hP
  obtain ⟨i0, hi, hz0, hz1, hz2⟩ := info_parts infoByte
  have HBI := Lib.hid hB
  by_cases hn : n ≤ 2000
  · have hnI : ¬ (2000 : Int) < (n : Int) := by omega
    have HN := Lib.hid (show n + 1 ≤ 2030 by omega)
    go_enter Tryd.func7, Tryd.ntmps7
    go_wp2_with (fail)
    refine (ok.readB HP.out hB (by omega)).mono ?_
    intro ee wr hrd
    obtain ⟨a5, c5, rfl, hs, hb⟩ := rdP_val hrd
    have hba : Below wr.heap.size wr (wr.alloc (.cells ((rdQ x n).cells a5 (rdM x n) c5) 29)) := (Below.refl _ _).alloc (Nat.le_refl _) _
    have hb2 := hb.trans (hba.mono hb.size)
    have HB1 := Lib.hid hb2
    have K5 := Lib.hid (show (wr.alloc (.cells ((rdQ x n).cells a5 (rdM x n) c5) 29)).heap[wr.heap.size]? = some (.cells ((rdQ x n).cells a5 (rdM x n) c5) 29 (0, 0)) from heap_alloc_new wr _)
    have S5 := Lib.hid (hs.later hba)
    clear hrd hs hb hba hb2 hB
    go_upto_region 4 with (fail)
    generalize wr.alloc (.cells ((rdQ x n).cells a5 (rdM x n) c5) 29) = W1 at *
    generalize hb5d : wr.heap.size = b5 at *
    go_wp2_with (fail)
    refine (ok.readrB (HBI.out.later HB1.out) (by have := HN.out; omega)).mono ?_
    intro ee wr hrd
    obtain ⟨a7, c7, rfl, hs, hb⟩ := rrP_val hrd
    have hba : Below wr.heap.size wr (wr.alloc (.cells (rsA (rrE x n) (rrV x n) a7 (rrM x n) c7) 41)) := (Below.refl _ _).alloc (Nat.le_refl _) _
    have hb2 := hb.trans (hba.mono hb.size)
    have HB2 := Lib.hid (HB1.out.trans (hb2.mono HB1.out.size))
    have K7 := Lib.hid (show (wr.alloc (.cells (rsA (rrE x n) (rrV x n) a7 (rrM x n) c7) 41)).heap[wr.heap.size]? = some (.cells (rsA (rrE x n) (rrV x n) a7 (rrM x n) c7) 41 (0, 0)) from heap_alloc_new wr _)
    have S7 := Lib.hid (hs.later hba)
    have K5n := Lib.hid (kept_at K5.out hb2)
    have S5n := Lib.hid (S5.out.later hb2)
    clear hrd hs hb hba hb2 HB1 K5 S5
    go_upto_region 5 with (fail)
    generalize wr.alloc (.cells (rsA (rrE x n) (rrV x n) a7 (rrM x n) c7) 41) = W3 at *
    generalize hb7d : wr.heap.size = b7 at *
    have HOW := Lib.hid (World.ownsRow_made W3 (e := 5) (base := W3.heap.size) (size := 1) #[] 0 (Nat.le_refl _) (Nat.zero_le _) (by simp))
    have hba : Below W3.heap.size W3 (W3.alloc (.cells #[] 5)) := (Below.refl _ _).alloc (Nat.le_refl _) _
    have HBA := Lib.hid hba
    have HSA := Lib.hid ((HBI.out.1.later HB2.out).later hba)
    have KB := Lib.hid (show ∀ W1 : World, (W3.alloc (.cells #[] 5)).grownBy W1 (Value.slice (some ⟨W3.heap.size, 0, none⟩) 0 0).ownBlock → W3.heap.size ≤ (W1.alloc (.cells #[.int .u8 (b.toNat : Int)] 5)).heap.size from fun W1 h => by have h2 := h.size; simp at h2 ⊢; omega)
    clear hba
    go_upto_region 6 with (first
      | (at_builtin; refine wpList_append_src _ rfl _ _ 27 rfl W3.heap.size 5 i0 _ 1 1 Tryd.underlying27 hi hz0 hz1 hz2 rfl (by decide) _ _ _ rfl HOW.out _ _ _ (bytL n x) rfl (by rw [bytL_len]; omega) HSA.out.cells (bytL_one _ _) (by unfold maxLen; omega) (by omega) HBA.out.size ?_; intro v1 W1 hown1 hg1 _; rw [Nat.zero_add, List.nil_append] at hown1; have HO1 := Lib.hid hown1; have HG1 := Lib.hid hg1; have HSZ := Lib.hid (KB.out W1 hg1); clear hown1 hg1)
      | (at_builtin; refine wpList_append_src _ rfl _ _ 27 rfl W3.heap.size 5 i0 _ 1 1 Tryd.underlying27 hi hz0 hz1 hz2 rfl (by decide) _ _ _ rfl (HO1.out.alloc _) _ _ _ [.int .u8 (b.toNat : Int)] rfl rfl (one_src W1 b) (more_one b) (by unfold maxLen; omega) (by omega) HSZ.out ?_; intro v2 W2 hown2 hg2 _; obtain ⟨g, cap, e2, hsn⟩ := snoc_made (b := b) HO1.out HG1.out hown2 hg2; subst e2; have HSN := Lib.hid hsn; have hcap := hsn.le; clear hown2 hg2 HO1 HG1 HSZ hsn)
      | fail)
    clear HOW HSA KB HBA hi hz0 hz1 hz2
    have HO := Lib.hid (OnB.mk (w := W3) HSN.out (kept_at K5n.out HSN.out.bel) (kept_at K7.out HSN.out.bel) (S5n.out.later HSN.out.bel) (S7.out.later HSN.out.bel))
    clear K5n K7 S5n S7
    have HNN := Lib.hid (show n ≤ 2000 from hn)
    clear hn HSN
    cases hc : okC x n with
    | true =>
      rw [show erB true = 0 from rfl]
      obtain ⟨hin, hmay, hcall, hn8⟩ := rd_facts hc
      have hn8I : ¬ (n : Int) < 8 := by omega
      have B5 := HO.out.k5
      go_wp2_with (refine wpList_load_call rfl _ rfl _ rfl B5 ?_)
      refine (ok.bytes (ok.later HP.out (HB2.out.trans (HO.out.sn.bel.mono HB2.out.size))) hin HO.out.s5).mono ?_
      rintro ee wy (⟨-, vy, rfl, hby, hb⟩ | ⟨h, _⟩)
      rotate_left
      · rw [hmay] at h; cases h
      rw [hcall] at hby
      have HOy := Lib.hid (HO.out.later hb)
      have HBy := Lib.hid hby
      clear hb hby HO B5
      go_wp2_with (fail)
      refine (ok.readB (ok.later HP.out (HB2.out.trans (HOy.out.sn.bel.mono HB2.out.size))) HOy.out.sn.all HN.out).mono ?_
      intro ee wr hrd
      obtain ⟨qz, rfl, hb⟩ := rdP_no (only_more b hc) hrd
      clear hrd
      have hba : Below wr.heap.size wr (wr.alloc (.cells (qz.cells none 0 0) 29)) := (Below.refl _ _).alloc (Nat.le_refl _) _
      have hb2 := hb.trans (hba.mono hb.size)
      have HOa := Lib.hid (HOy.out.later hb2)
      have HBa := Lib.hid (HBy.out.later hb2)
      clear hb hba hb2
      go_upto_region 9 with (fail)
      generalize wr.alloc (.cells (qz.cells none 0 0) 29) = Wa1 at *
      generalize wr.heap.size = bxWa1 at *
      clear HOy HBy
      have HBW := Lib.hid (HB2.out.trans (HOa.out.sn.bel.mono HB2.out.size))
      have cv1 := str_byt HBa.out
      rw [strL_lisX] at cv1
      have cv2 := run_string_src (c := c) (HBI.out.1.later HBW.out)
      have HSL := Lib.hid (fun V => sub_less HBI.out (show 1 ≤ n by omega) V)
      generalize strB n x = SB at *
      go_wp2_with (first | (refine wpList_sliceM rfl _ _ _ _ _ rfl (HSL.out _) ?_) | fail)
      refine (ok.readB (ok.later HP.out HBW.out) (HBI.out.less.later HBW.out) (by have := HN.out; omega)).mono ?_
      intro ee wr hrd
      obtain ⟨qy, rfl, hb⟩ := rdP_no (only_less hc) hrd
      clear hrd cv1 cv2
      have hba : Below wr.heap.size wr (wr.alloc (.cells (qy.cells none 0 0) 29)) := (Below.refl _ _).alloc (Nat.le_refl _) _
      have hb2 := hb.trans (hba.mono hb.size)
      have HO := Lib.hid (HOa.out.later hb2)
      clear hb hba hb2
      go_upto_region 14 with (fail)
      generalize wr.alloc (.cells (qy.cells none 0 0) 29) = Wb at *
      generalize wr.heap.size = bxWb at *
      clear HOa HBa HBW HSL
      cases hx : okX x n with
      | true =>
        rw [show erB true = 0 from rfl]
        obtain ⟨hm, ⟨he1, he2⟩, hv, hmay2, hcall2, hn24⟩ := rr_facts hx
        have hn24I : ¬ (n : Int) < 24 := by omega
        have B7 := HO.out.k7
        go_wp2_with (refine wpList_load_res rfl _ rfl _ rfl B7 ?_)
        refine (ok.resb hm he1 he2 hv HO.out.s7).mono ?_
        rintro ee wy (⟨-, vy, rfl, hby, hb⟩ | ⟨h, _⟩)
        rotate_left
        · rw [hmay2] at h; cases h
        rw [hcall2] at hby
        have HOy := Lib.hid (HO.out.later hb)
        have HBy := Lib.hid hby
        clear hb hby HO B7
        go_wp2_with (fail)
        refine (ok.readrB HOy.out.sn.all HN.out).mono ?_
        intro ee wr hrd
        obtain ⟨z1, u1, rfl, hb⟩ := rrP_no (res_more b (by have := HN.out; omega) hx) hrd
        clear hrd
        have hba : Below wr.heap.size wr (wr.alloc (.cells (rsA z1 u1 none 0 0) 41)) := (Below.refl _ _).alloc (Nat.le_refl _) _
        have hb2 := hb.trans (hba.mono hb.size)
        have HOa := Lib.hid (HOy.out.later hb2)
        have HBa := Lib.hid (HBy.out.later hb2)
        clear hb hba hb2
        go_upto_region 17 with (fail)
        generalize wr.alloc (.cells (rsA z1 u1 none 0 0) 41) = Wc at *
        generalize wr.heap.size = bxWc at *
        clear HOy HBy
        have HBW := Lib.hid (HB2.out.trans (HOa.out.sn.bel.mono HB2.out.size))
        have cv1 := str_byt HBa.out
        rw [strL_lisX] at cv1
        have cv2 := run_string_src (c := c) (HBI.out.1.later HBW.out)
        have HSL := Lib.hid (fun V => sub_less HBI.out (show 1 ≤ n by omega) V)
        generalize strB n x = SB at *
        go_wp2_with (first | (refine wpList_sliceM rfl _ _ _ _ _ rfl (HSL.out _) ?_) | fail)
        refine (ok.readrB (HBI.out.less.later HBW.out) (by have := HN.out; omega)).mono ?_
        intro ee wr hrd
        obtain ⟨z2, u2, rfl, hb⟩ := rrP_no (res_less (by have := HN.out; omega) hx) hrd
        clear hrd cv1 cv2
        have hba : Below wr.heap.size wr (wr.alloc (.cells (rsA z2 u2 none 0 0) 41)) := (Below.refl _ _).alloc (Nat.le_refl _) _
        have hb2 := hb.trans (hba.mono hb.size)
        have HO := Lib.hid (HOa.out.later hb2)
        clear hb hba hb2
        go_upto_region 22 with (fail)
        generalize wr.alloc (.cells (rsA z2 u2 none 0 0) 41) = Wd at *
        generalize wr.heap.size = bxWd at *
        clear HOa HBa HBW HSL
        go_wp2_with (fail)
        refine (cknown_any ok _ (ok.later HP.out (HB2.out.trans (HO.out.sn.bel.mono HB2.out.size)))).mono ?_
        rintro ee wk ⟨rfl, hbk⟩
        have HBK := Lib.hid ((HB2.out.trans (HO.out.sn.bel.mono HB2.out.size)).trans (hbk.mono (HB2.out.trans (HO.out.sn.bel.mono HB2.out.size)).size))
        clear hbk HO
        go_wp2_with (fail)
        go_ret
        exact ⟨rfl, HBK.out⟩
      | false =>
        rw [show erB false = 5 from rfl]
        go_wp2_with (fail)
        refine (cknown_any ok _ (ok.later HP.out (HB2.out.trans (HO.out.sn.bel.mono HB2.out.size)))).mono ?_
        rintro ee wk ⟨rfl, hbk⟩
        have HBK := Lib.hid ((HB2.out.trans (HO.out.sn.bel.mono HB2.out.size)).trans (hbk.mono (HB2.out.trans (HO.out.sn.bel.mono HB2.out.size)).size))
        clear hbk HO
        go_wp2_with (fail)
        go_ret
        exact ⟨rfl, HBK.out⟩
    | false =>
      rw [show erB false = 5 from rfl]
      go_upto_region 14 with (fail)
      cases hx : okX x n with
      | true =>
        rw [show erB true = 0 from rfl]
        obtain ⟨hm, ⟨he1, he2⟩, hv, hmay2, hcall2, hn24⟩ := rr_facts hx
        have hn24I : ¬ (n : Int) < 24 := by omega
        have B7 := HO.out.k7
        go_wp2_with (refine wpList_load_res rfl _ rfl _ rfl B7 ?_)
        refine (ok.resb hm he1 he2 hv HO.out.s7).mono ?_
        rintro ee wy (⟨-, vy, rfl, hby, hb⟩ | ⟨h, _⟩)
        rotate_left
        · rw [hmay2] at h; cases h
        rw [hcall2] at hby
        have HOy := Lib.hid (HO.out.later hb)
        have HBy := Lib.hid hby
        clear hb hby HO B7
        go_wp2_with (fail)
        refine (ok.readrB HOy.out.sn.all HN.out).mono ?_
        intro ee wr hrd
        obtain ⟨z1, u1, rfl, hb⟩ := rrP_no (res_more b (by have := HN.out; omega) hx) hrd
        clear hrd
        have hba : Below wr.heap.size wr (wr.alloc (.cells (rsA z1 u1 none 0 0) 41)) := (Below.refl _ _).alloc (Nat.le_refl _) _
        have hb2 := hb.trans (hba.mono hb.size)
        have HOa := Lib.hid (HOy.out.later hb2)
        have HBa := Lib.hid (HBy.out.later hb2)
        clear hb hba hb2
        go_upto_region 17 with (fail)
        generalize wr.alloc (.cells (rsA z1 u1 none 0 0) 41) = Wc at *
        generalize wr.heap.size = bxWc at *
        clear HOy HBy
        have HBW := Lib.hid (HB2.out.trans (HOa.out.sn.bel.mono HB2.out.size))
        have cv1 := str_byt HBa.out
        rw [strL_lisX] at cv1
        have cv2 := run_string_src (c := c) (HBI.out.1.later HBW.out)
        have HSL := Lib.hid (fun V => sub_less HBI.out (show 1 ≤ n by omega) V)
        generalize strB n x = SB at *
        go_wp2_with (first | (refine wpList_sliceM rfl _ _ _ _ _ rfl (HSL.out _) ?_) | fail)
        refine (ok.readrB (HBI.out.less.later HBW.out) (by have := HN.out; omega)).mono ?_
        intro ee wr hrd
        obtain ⟨z2, u2, rfl, hb⟩ := rrP_no (res_less (by have := HN.out; omega) hx) hrd
        clear hrd cv1 cv2
        have hba : Below wr.heap.size wr (wr.alloc (.cells (rsA z2 u2 none 0 0) 41)) := (Below.refl _ _).alloc (Nat.le_refl _) _
        have hb2 := hb.trans (hba.mono hb.size)
        have HO := Lib.hid (HOa.out.later hb2)
        clear hb hba hb2
        go_upto_region 22 with (fail)
        generalize wr.alloc (.cells (rsA z2 u2 none 0 0) 41) = Wd at *
        generalize wr.heap.size = bxWd at *
        clear HOa HBa HBW HSL
        go_wp2_with (fail)
        refine (cknown_any ok _ (ok.later HP.out (HB2.out.trans (HO.out.sn.bel.mono HB2.out.size)))).mono ?_
        rintro ee wk ⟨rfl, hbk⟩
        have HBK := Lib.hid ((HB2.out.trans (HO.out.sn.bel.mono HB2.out.size)).trans (hbk.mono (HB2.out.trans (HO.out.sn.bel.mono HB2.out.size)).size))
        clear hbk HO
        go_wp2_with (fail)
        go_ret
        exact ⟨rfl, HBK.out⟩
      | false =>
        rw [show erB false = 5 from rfl]
        go_wp2_with (fail)
        refine (cknown_any ok _ (ok.later HP.out (HB2.out.trans (HO.out.sn.bel.mono HB2.out.size)))).mono ?_
        rintro ee wk ⟨rfl, hbk⟩
        have HBK := Lib.hid ((HB2.out.trans (HO.out.sn.bel.mono HB2.out.size)).trans (hbk.mono (HB2.out.trans (HO.out.sn.bel.mono HB2.out.size)).size))
        clear hbk HO
        go_wp2_with (fail)
        go_ret
        exact ⟨rfl, HBK.out⟩
  · have hnI : (2000 : Int) < (n : Int) := by omega
    go_enter Tryd.func7, Tryd.ntmps7
    go_wp2_with (fail)
    refine (cknown_any ok _ HP.out).mono ?_
    rintro ee wk ⟨rfl, hbk⟩
    have HBK := Lib.hid hbk
    clear hbk
    go_wp2_with (fail)
    go_ret
    exact ⟨rfl, HBK.out⟩
end
end Go.Proofs.YtkmjkkeldbocdaaDoor
