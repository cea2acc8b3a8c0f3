/-
  calls, the document's: a call's bytes.
-/
import Derived.Test.YtkmjkkeldbocdaaDoorCsOf
namespace Go.Proofs.YtkmjkkeldbocdaaDoor
open Go.RowKit Go
attribute [local go_sem] Oper.semAt_some

/-- What a call's small fields may be. -/
structure CallM.Ok (q : CallM) : Prop where
  kind : q.kind ≤ 255
  rights : q.rights ≤ 255
  pk : q.pk ≤ 255
  pm : q.pm ≤ 255
  handle : q.handle < 18446744073709551616
theorem listN_lt {q : CallM} (h : q.Ok) : ∀ x ∈ listN q, x < 18446744073709551616 := by
  obtain ⟨kind, pid, node, page, count, addr, size, rights, pk, pm, handle⟩ := q
  have h1 : rights ≤ 255 := h.rights
  have h2 : pk ≤ 255 := h.pk
  have h3 : pm ≤ 255 := h.pm
  have h4 : handle < 18446744073709551616 := h.handle
  have u := uI_lt
  intro x hx
  unfold listN at hx
  dsimp only at hx
  split at hx <;> simp only [List.mem_cons, List.not_mem_nil, or_false] at hx
  all_goals first
    | exact hx.elim
    | (rcases hx with rfl | rfl | rfl | rfl | rfl <;> first | exact u _ | omega)
    | (rcases hx with rfl | rfl | rfl | rfl <;> first | exact u _ | omega)
    | (rcases hx with rfl | rfl | rfl <;> first | exact u _ | omega)
    | (rcases hx with rfl | rfl <;> first | exact u _ | omega)
    | (subst hx; first | exact u _ | omega)
def headL (q : CallM) (i : Nat) : List UInt8 := wordL q.kind ++ ((listN q).take i).flatMap wordL
theorem headL_succ {q : CallM} {i x : Nat} (h : (listN q)[i]? = some x) : headL q (i + 1) = headL q i ++ wordL x := by
  unfold headL
  rw [List.take_add_one, h]
  simp
theorem headL_len (q : CallM) : ∀ i, (headL q i).length ≤ 8 * (i + 1)
  | 0 => by unfold headL; simp [wordL_len]
  | i + 1 => by
    have ih := headL_len q i
    cases h : (listN q)[i]? with
    | none =>
      have : headL q (i + 1) = headL q i := by
        unfold headL
        rw [List.take_add_one, h]
        simp
      rw [this]; omega
    | some x =>
      rw [headL_succ h, List.length_append, wordL_len]
      omega
def callL (q : CallM) (x : Nat → UInt8) (n : Nat) : List UInt8 := if hasK q.kind then (headL q (listN q).length ++ wordL n) ++ lisX x n else headL q (listN q).length
theorem lenK_le (k : Nat) : lenK k ≤ 5 := by
  unfold lenK
  split <;> decide
theorem NumAt.below {base : Nat} {L : List Nat} {v : Value} {w w' : World} (h : NumAt base L v w) (hb : Below w.heap.size w w') : NumAt base L v w' := by
  obtain ⟨a, c, e, hr⟩ := h
  refine ⟨a, c, e, fun h0 => ?_⟩
  obtain ⟨b, e2, h2, hR⟩ := hr h0
  exact ⟨b, e2, h2, hR.later hb⟩
set_option maxRecDepth 100000 in
set_option maxHeartbeats 8000000 in
theorem rbytes_any (q : CallM) (hq : q.Ok) (a : Option Addr) (n c : Nat) (x : Nat → UInt8) (hn : n ≤ 2000) (w : World) (hS : Src w a n x) : Calls Tryd.prog 18 #[.agg (q.cells a n c)] w (BytPost (callL q x n) w) := by
  obtain ⟨i0, hi0, hz0, hz1, hz2⟩ := info_parts infoByte
  have hb : Below w.heap.size w (w.alloc (.cells (q.cells a n c) 29)) := (Below.refl _ _).alloc (Nat.le_refl _) _
  have hrow := heap_alloc_new w (.cells (q.cells a n c) 29)
  have k0 : (w.alloc (.cells (q.cells a n c) 29)).cell? ⟨w.heap.size, 0, none⟩ = some (.int .u8 (q.kind : Int)) := by simp [go_sem]
  have k11 : (w.alloc (.cells (q.cells a n c) 29)).cell? ⟨w.heap.size, 11, none⟩ = some (.slice a n c) := by simp [go_sem]
  have HB := Lib.hid hb
  have HS0 := Lib.hid hS
  have HLI := Lib.hid (fun W => list_any q hq.rights hq.pk hq.pm a n c W)
  have HLT := Lib.hid (listN_lt hq)
  have hL5 : (listN q).length ≤ 5 := by rw [listN_len]; exact lenK_le _
  have HWK := Lib.hid (fun W => word_any q.kind (by have := hq.kind; omega) W)
  have HWN := Lib.hid (fun W => word_any n (by omega) W)
  have HCV := Lib.hid (show IntKind.u64.wrap (q.kind : Int) = q.kind from u64_nat (by have := hq.kind; omega))
  have hwn : IntKind.u64.wrap (n : Int) = n := u64_nat (by omega)
  have hnI : (n : Int) ≤ 2000 := by omega
  obtain ⟨R, hR⟩ : ∃ R, callL q x n = R := ⟨_, rfl⟩
  rw [hR]
  have HR := Lib.hid (show R = if hasK q.kind then (headL q (listN q).length ++ wordL n) ++ lisX x n else headL q (listN q).length from hR.symm)
  have HHL := Lib.hid (headL_len q)
  have HSU := Lib.hid (fun i y (h : (listN q)[i]? = some y) => headL_succ h)
  have HD0 := Lib.hid (show headL q 0 = wordL q.kind by unfold headL; simp)
  clear hb hS hq hn hrow hR
  go_enter Tryd.func18, Tryd.ntmps18
  go_wp2_with (fail)
  generalize w.alloc (.cells (q.cells a n c) 29) = w1 at *
  refine (HLI.out _).mono ?_
  rintro e w2 ⟨vl, rfl, hNum, hb2⟩
  have HNU := Lib.hid hNum
  have HB2 := Lib.hid (HB.out.trans (hb2.mono HB.out.size))
  have K0 := Lib.hid ((hb2.cell (p := ⟨w.heap.size, 0, none⟩) (World.block_lt_of_cell? _ _ k0)).trans k0)
  have K11 := Lib.hid ((hb2.cell (p := ⟨w.heap.size, 11, none⟩) (World.block_lt_of_cell? _ _ k11)).trans k11)
  have HZ := Lib.hid (show w.heap.size < w2.heap.size from World.block_lt_of_cell? _ _ K0.out)
  clear hNum hb2 k0 k11 HLI HB
  generalize listN q = N at *
  generalize hasK q.kind = H at *
  generalize headL q = G at *
  generalize q.kind = k at *
  have k0 := K0.out
  have hcv := HCV.out
  obtain ⟨va, vc, hv, hnum⟩ := HNU.out
  have HVN := Lib.hid hnum
  subst hv
  clear hnum HNU
  go_wp2_with (fail)
  refine (HWK.out _).mono ?_
  rintro e w3 ⟨v3, rfl, h3, hb3⟩
  have HV3 := Lib.hid (show BytAt w2.heap.size (G 0) v3 w3 from by rw [HD0.out]; exact h3)
  have HB3 := Lib.hid hb3
  clear h3 hb3 hcv HCV HWK k0
  go_wp2_with (fail)
  go_loopw [6, 7] (fun bv iv wr => ∃ i : Nat, iv = .int .i64 i ∧ i ≤ N.length ∧ Hid (BytAt w2.heap.size (G i) bv wr) ∧ Hid (Below w2.heap.size w2 wr)) (fun _ iv _ => N.length - (intOf iv).toNat)
  case atStart => exact ⟨0, rfl, Nat.zero_le _, HV3, HB3⟩
  case round =>
    clear HV3 HB3
    obtain ⟨i, rfl, hi, HV, HB⟩ := hrel
    by_cases hlt : i < N.length
    · have hltI : (i : Int) < (N.length : Int) := by omega
      obtain ⟨b, rfl, hbb, hrow⟩ := HVN.out (by omega)
      have hc := (hrow.later HB.out).cell i hlt
      obtain ⟨y, hy⟩ : ∃ y, N[i]? = some y := ⟨_, List.getElem?_eq_getElem hlt⟩
      have hy2 : N.getD i 0 = y := by rw [List.getD_eq_getElem?_getD, hy]; rfl
      have hyl := HLT.out y (List.mem_of_getElem? hy)
      have HWY := Lib.hid (fun W => word_any y hyl W)
      have HG := Lib.hid (HSU.out i y hy)
      rw [hy2] at hc
      obtain ⟨ua, uc, hu, _⟩ := owns_slice HV.out
      have hgl : (G i).length ≤ 50 := by have := HHL.out i; omega
      have HGL := Lib.hid hgl
      clear hrow hbb hy hy2 hyl
      subst hu
      go_wp2_with (fail)
      refine (HWY.out _).mono ?_
      rintro e w4 ⟨v4, rfl, h4, hb4⟩
      obtain ⟨a4, c4, e4, hc4⟩ := h4.there
      have HC4 := Lib.hid hc4
      have HV4 := Lib.hid (HV.out.later hb4)
      have HB4 := Lib.hid (HB.out.trans (hb4.mono HB.out.size))
      clear hb4 hc4 h4 HWY hc HV HB
      subst e4
      go_wp2_with (first | (at_builtin; refine wpList_append_src w4 rfl _ _ 27 rfl w2.heap.size 5 i0 _ 1 1 Tryd.underlying27 hi0 hz0 hz1 hz2 rfl (by decide) _ _ _ rfl HV4.out a4 _ c4 (bvs (wordL y)) rfl (by rw [bvs_len]; omega) HC4.out (bvs_one _) (by rw [wordL_len]; have := HGL.out; unfold maxLen; omega) (by rw [wordL_len]; have := HGL.out; omega) HB4.out.size ?_; intro v5 W5 hown5 hg5 _) | fail)
      have ho5 : Only (fun k => (Value.slice ua (G i).length uc).ownBlock = some k) w4 W5 := Only.of_grown hg5
      have HV5 := Lib.hid (show BytAt w2.heap.size (G (i + 1)) v5 W5 from by rw [HG.out]; exact BytAt.more hown5)
      have HB5 := Lib.hid (ho5.below HB4.out HB4.out.size (fun k hk => (HV4.out.lt k hk).1))
      clear hown5 hg5 ho5 HV4 HB4 HC4
      go_roundw
      case rel => exact ⟨i + 1, by go_num, hlt, HV5, HB5⟩
      case measure => simp [intOf]; omega
    · obtain rfl : i = N.length := by omega
      have hgl := HHL.out N.length
      have HGL := Lib.hid (show (G N.length).length ≤ 56 by omega)
      obtain ⟨ua, uc, hu, _⟩ := owns_slice HV.out
      clear hgl
      subst hu
      cases H with
      | false =>
        have HVF := Lib.hid (HV.out.low (Nat.le_of_lt HZ.out))
        have HBF := Lib.hid (HB2.out.trans (HB.out.mono (Nat.le_of_lt HZ.out)))
        clear HV HB HVN
        go_wp2_with (fail)
        go_ret
        exact ⟨_, rfl, by rw [HR.out]; exact HVF.out, HBF.out⟩
      | true =>
        have k11 := (HB.out.cell (p := ⟨w.heap.size, 11, none⟩) (World.block_lt_of_cell? _ _ K11.out)).trans K11.out
        clear HVN
        go_wp2_with (fail)
        refine (HWN.out _).mono ?_
        rintro r W4 ⟨v4, rfl, h4, hb4⟩
        obtain ⟨a4, c4, e4, hc4⟩ := h4.there
        have HC4 := Lib.hid hc4
        have HV4 := Lib.hid (HV.out.later hb4)
        have k4 : W4.cell? ⟨w.heap.size, 11, none⟩ = some (.slice a n c) := by rw [hb4.cell (World.block_lt_of_cell? _ _ k11)]; exact k11
        have HB4 := Lib.hid (HB.out.trans (hb4.mono HB.out.size))
        clear k11 HB HV hb4 hc4 h4 HWN
        subst e4
        go_wp2_with (first | (at_builtin; refine wpList_append_src W4 rfl _ _ 27 rfl w2.heap.size 5 i0 _ 1 1 Tryd.underlying27 hi0 hz0 hz1 hz2 rfl (by decide) _ _ _ rfl HV4.out a4 _ c4 (bvs (wordL n)) rfl (by rw [bvs_len]; omega) HC4.out (bvs_one _) (by rw [wordL_len]; have := HGL.out; unfold maxLen; omega) (by rw [wordL_len]; have := HGL.out; omega) HB4.out.size ?_; intro v5 W5 hown5 hg5 _; have ho5 : Only (fun k => (Value.slice ua (G N.length).length uc).ownBlock = some k) W4 W5 := Only.of_grown hg5; have k5 : W5.cell? ⟨w.heap.size, 11, none⟩ = some (.slice a n c) := ho5.cell (fun h => by have := (HV4.out.lt _ h).1; have := HZ.out; omega) k4; have HV5 := Lib.hid (BytAt.more hown5); have HB5 := Lib.hid (ho5.below HB4.out HB4.out.size (fun k hk => (HV4.out.lt k hk).1)); clear hown5 hg5 ho5 k4 HV4 HB4 HC4) | (at_builtin; refine wpList_append_src W5 rfl _ _ 27 rfl w2.heap.size 5 i0 _ 1 1 Tryd.underlying27 hi0 hz0 hz1 hz2 rfl (by decide) _ _ _ rfl HV5.out a n c (bytL n x) rfl (by rw [bytL_len]; omega) (HS0.out.later (HB2.out.trans (HB5.out.mono (Nat.le_of_lt HZ.out)))).cells (bytL_one _ _) (by rw [List.length_append, wordL_len]; have := HGL.out; unfold maxLen; omega) (by rw [List.length_append, wordL_len]; have := HGL.out; omega) HB5.out.size ?_; intro v6 W6 hown6 hg6 _) | fail)
        have ho6 : Only (fun k => v5.ownBlock = some k) W5 W6 := Only.of_grown hg6
        have HB6 := Lib.hid (ho6.below HB5.out HB5.out.size (fun k hk => (HV5.out.lt k hk).1))
        have HV6 := Lib.hid (show BytAt w2.heap.size ((G N.length ++ wordL n) ++ lisX x n) v6 W6 from by
          refine BytAt.more ?_
          rw [bvs_lisX, lisX_len]
          exact hown6)
        clear hown6 hg6 ho6 HV5 HB5
        go_ret
        exact ⟨_, rfl, by rw [HR.out]; exact HV6.out.low (Nat.le_of_lt HZ.out), HB2.out.trans (HB6.out.mono (Nat.le_of_lt HZ.out))⟩
end Go.Proofs.YtkmjkkeldbocdaaDoor
