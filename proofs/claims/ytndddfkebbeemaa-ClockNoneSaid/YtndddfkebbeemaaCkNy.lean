/-
  clock: the landed Next where there are frames.
-/
import Derived.Test.YtndddfkebbeemaaCkNx
namespace Go.Proofs.Ytndddfkebbeemaa
open Go.RowKit Go.Shelf Go
attribute [local go_sem] Oper.semAt_some

/-- What Next leaves. -/
def NxP (w : World) (p : Nat) (v : Value) (mb : Nat) (L : List Fr) (e : Ending) (w' : World) : Prop :=
  e = .returned (.tuple #[.int .i64 (nextL L).1.1, .bool (nextL L).1.2]) ∧ ∃ v', TTurn w (thC p v (some mb) L) w' (thC p v' (some mb) (nextL L).2)
/-- The i-th that is told. -/
def nmL (L : List Fr) (i : Nat) : Nat := ((looks i L)[0]?.getD (0, false, false)).1
/-- The clock behind the turns. -/
theorem nx_done {w W : World} {p mb b1 b2 base i : Nat} {v : Value} {n : Int} {b : Bool} {L : List Fr} (h : CkAt w p v (some mb) L) (hN : NxI w p mb v b1 n b (stM (looks i L)) W) (hR : CkRg base b2 p mb v L i W) (hb : w.heap.size ≤ base) :
    ∃ v', TTurn w (thC p v (some mb) L) W (thC p v' (some mb) (looks i L)) := by
  obtain ⟨v', hR⟩ := hR
  have ho := hN.only
  refine ⟨v', ⟨hR.row, hR.win, fun mb2 e => (by cases e; exact hN.mp), fun e => (by cases e), hR.pv, h.pm, fun mb2 e => (by cases e; exact hR.vm)⟩, ⟨ho.os, ho.tape, ho.output, ho.size, fun k hk hs => ho.block k hk (fun h2 => ?_)⟩, fun k hk => ?_⟩
  · rcases h2 with h2 | h2 | h2 | h2
    · exact hs (.inl h2)
    · exact hs (.inr (.inl h2))
    · exact hs (.inr (.inr (by rw [h2])))
    · omega
  · rcases hk with hk | hk | hk
    · exact .inl (.inl hk)
    · rcases hR.fr with f | f
      · exact .inl (.inr (.inl (by rw [← f]; exact hk)))
      · exact .inr (Nat.le_trans hb (f k hk))
    · exact .inl (.inr (.inr hk))
theorem row_one (w : World) (u : Value) (t : TypeId) : RowAt (w.alloc (.cells #[u] t)) w.heap.size 1 (fun _ => u) := RowAt.new w _ _ _ _ fun i hi => by
  obtain rfl : i = 0 := by omega
  rfl
theorem row_put1 {W : World} {b : Nat} {u : Value} (R : RowAt W b 1 (fun _ => u)) (x : Value) : RowAt (W.setCell ⟨b, 0, none⟩ x) b 1 (fun _ => x) := (R.setCell 0 x).ext fun i hi => by
  obtain rfl : i = 0 := by omega
  simp [updV]
set_option maxRecDepth 100000 in
set_option maxHeartbeats 8000000 in
theorem next_in (q : Nat) (hq : 12 ≤ q) {w : World} {p mb : Nat} {v : Value} {L : List Fr} (h : CkAt w p v (some mb) L) (I : ClI L) (hL : 0 < L.length) :
    CallsIn Fence.wide q Try.prog 17 #[.pointer (some ⟨p, 0, none⟩)] w (NxP w p v mb L) := by
  have h1 : 1 ≤ q := by omega
  obtain ⟨j, x, M0, hj, hxq, hnx, hnq⟩ := next_at L (List.length_pos_iff.1 hL)
  obtain ⟨W3, hW3⟩ : ∃ W3, W3 = ((w.alloc (.cells #[.pointer (some ⟨p, 0, none⟩)] 24)).alloc (.cells #[.int .i64 0] 3)).alloc (.cells #[.bool false] 4) := ⟨_, rfl⟩
  have hb3 : Below w.heap.size w W3 := by rw [hW3]; exact (((Below.refl _ _).alloc (Nat.le_refl _) _).alloc (by simp) _).alloc (by simp; omega) _
  have hs3 : W3.heap.size = w.heap.size + 3 := by rw [hW3]; simp
  have R1 : RowAt W3 w.heap.size 1 (fun _ => .pointer (some ⟨p, 0, none⟩)) := by
    rw [hW3]
    exact ((row_one w _ _).alloc _).alloc _
  have R2 : RowAt W3 (w.heap.size + 1) 1 (fun _ => .int .i64 0) := by
    rw [hW3]
    have h5 := row_one (w.alloc (.cells #[.pointer (some ⟨p, 0, none⟩)] 24)) (.int .i64 0) 3
    rw [World.size_alloc] at h5
    exact h5.alloc _
  have R3 : RowAt W3 (w.heap.size + 1 + 1) 1 (fun _ => .bool false) := by
    rw [hW3]
    have h5 := row_one ((w.alloc (.cells #[.pointer (some ⟨p, 0, none⟩)] 24)).alloc (.cells #[.int .i64 0] 3)) (.bool false) 4
    rw [World.size_alloc, World.size_alloc] at h5
    exact h5
  obtain ⟨WS, hWS⟩ : ∃ WS, WS = W3.alloc (.cells #[.pointer (some ⟨p, 0, none⟩)] 24) := ⟨_, rfl⟩
  have hbS : Below W3.heap.size W3 WS := by rw [hWS]; exact (Below.refl _ _).alloc (Nat.le_refl _) _
  have hsS : WS.heap.size = w.heap.size + 4 := by rw [hWS]; simp; omega
  have hbW : Below w.heap.size w WS := hb3.trans (hbS.mono hb3.size)
  have R4 : RowAt WS W3.heap.size 1 (fun _ => .pointer (some ⟨p, 0, none⟩)) := by
    rw [hWS]
    exact row_one W3 _ _
  have hpl : p < w.heap.size := h.row.lt
  have hml : mb < w.heap.size := (h.mp mb rfl).lt
  have hvl : ∀ k, v.ownBlock = some k → k < w.heap.size := fun k hk => h.win.lt hk
  have hS := h.later hbW
  have HN0 := Lib.hid (show NxI w p mb v w.heap.size 0 false (stM (looks 0 L)) WS from ⟨R1.later hbS, R2.later hbS, R3.later hbS, hS.mp mb rfl, Only.of_below hbW⟩)
  have HR0 := Lib.hid (fun (W : World) (hb : Below WS.heap.size WS W) (hs : W.heap.size = WS.heap.size + 2) => show CkRg (WS.heap.size + 2) W3.heap.size p mb v L 0 W from
    ⟨v, R4.later hb, (hS.later hb).row, (hS.later hb).win, h.pv, h.vm mb rfl, fun e => by have := hvl _ e; omega, .inl rfl, by omega⟩)
  have HSEQ := Lib.hid (turns_seq (w := WS) (b1 := W3.heap.size) (p := p) (mb := mb) (K := j + 1) (v0 := v) I hL (by omega) (q - 1) (by omega) (by omega) (by omega) (by omega) (by omega))
  have HTU := Lib.hid (turns_ck W3 (some ⟨p, 0, none⟩))
  have HA := Lib.hid h
  have HI := Lib.hid I
  have HJ := Lib.hid (And.intro hj (And.intro hxq (And.intro hnx hnq)))
  have HBD := Lib.hid (And.intro hpl (And.intro hml hvl))
  have HSZ := Lib.hid (And.intro hs3 hsS)
  clear hb3 hbS hbW R1 R2 R3 R4 hS h I hj hxq hnx hnq hpl hml hvl hs3 hsS
  refine callsIn_of_wp_marks Try.func17 rfl trivial ?_ rfl
  simp only [Try.ntmps17, List.size_toArray, List.length_cons, List.length_nil, Nat.reduceAdd, Nat.reduceSub, Array.replicate_succ, Array.replicate_zero, List.push_toArray, List.append_toArray, List.nil_append, List.cons_append]
  gi_wp2_with (fail)
  rw [← hW3]
  refine ⟨trivial, (callsIn_wide.2 HTU.out).mono ?_⟩
  rintro e w' ⟨rfl, rfl⟩
  rw [← hWS]
  clear hW3 hWS HTU
  gi_wp2_with (fail)
  generalize hbe : w.heap.size = b1 at *
  generalize W3.heap.size = b2 at *
  refine range_t rfl h1 (gf := 35) (lb := #[.pointer (some ⟨b2, 0, none⟩)]) (by simp [go_sem]) trivial call_turns HSEQ.out (fun _ => rfl)
    (fun i W => NxI w p mb v b1 0 false (stM (looks i L)) W) (fun i W => i = j ∧ NxI w p mb v b1 (x.1 : Int) true (stM (looks (i + 1) L)) W ∧ CkRg (WS.heap.size + 2) b2 p mb v L (i + 1) W)
    ?own1 ?own2 ?own3 ?tn ?tl HN0.out HR0.out
    (fun i => { tmps := #[.pointer (some ⟨p, 0, none⟩), .pointer (some ⟨b1, 0, none⟩), .pointer (some ⟨b1 + 1, 0, none⟩), .pointer (some ⟨b1 + 1 + 1, 0, none⟩), .int .i64 (nmL L i : Nat), .pointer (some ⟨p, 0, none⟩), .func (.func 35) #[] #[.pointer (some ⟨b2, 0, none⟩)], .int .i64 (nmL L i : Nat), undef, undef, undef, undef], defers := [] })
    ?assign ?body ?stop
  case own1 =>
    intro i X Y row hN hg hr
    have h5 := HSZ.out.2
    exact hN.grown (B := WS.heap.size) (by have := HBD.out.2.1; omega) (by omega) hg hr
  case own2 =>
    intro i X Y row hN hg hr
    have h5 := HSZ.out.2
    obtain ⟨e, hN, v', hR⟩ := hN
    exact ⟨e, hN.grown (B := WS.heap.size) (by have := HBD.out.2.1; omega) (by omega) hg hr, v', hR.grown (by rw [namesL_len, looks_len]; exact hL) hg (fun r e => (hr r e).2)⟩
  case own3 =>
    intro i X Y row hR hg hr
    obtain ⟨v', hR⟩ := hR
    exact ⟨v', hR.grown (by rw [namesL_len, looks_len]; exact hL) hg (fun r e => (hr r e).2)⟩
  case tn =>
    intro i X Y hX hN hT
    have h5 := HSZ.out.2
    obtain ⟨g1, g2, g3⟩ := HBD.out
    have hcl : ∀ k, b1 ≤ k → k < WS.heap.size + 2 → ¬ (k = p ∨ v.ownBlock = some k ∨ WS.heap.size + 2 ≤ k) := fun k h6 h7 h8 => by
      rcases h8 with h8 | h8 | h8
      · omega
      · have := g3 k h8; omega
      · omega
    exact hN.turn hT (hcl _ (by omega) (by omega)) (hcl _ (by omega) (by omega)) (hcl _ (by omega) (by omega)) (fun h8 => by
      rcases h8 with h8 | h8 | h8
      · exact HA.out.pm (by rw [h8])
      · exact HA.out.vm mb rfl h8
      · omega) (fun k hk => by
      rcases hk with hk | hk | hk
      · exact .inl hk
      · exact .inr (.inl hk)
      · exact .inr (.inr (.inr (by omega))))
  case tl =>
    intro X Y hX hT
    have h5 := HSZ.out.2
    obtain ⟨g1, g2, g3⟩ := HBD.out
    have hcl : ∀ k, b1 ≤ k → k < WS.heap.size + 2 → ¬ (k = p ∨ v.ownBlock = some k ∨ WS.heap.size + 2 ≤ k) := fun k h6 h7 h8 => by
      rcases h8 with h8 | h8 | h8
      · omega
      · have := g3 k h8; omega
      · omega
    exact ⟨hT.block _ (by omega) (hcl _ (by omega) (by omega)), hT.block _ (by omega) (hcl _ (by omega) (by omega))⟩
  case assign =>
    intro l i W K hK
    have HK := Lib.hid hK
    clear hK
    simp only [inV, List.zip_toArray, List.zip_cons_cons, List.zip_nil_right, List.foldl_toArray, List.foldl_cons, List.foldl_nil, List.setIfInBounds_toArray, List.set_cons_succ, List.set_cons_zero]
    gi_wp2_with (fail)
    exact HK.out
  case body =>
    intro l i W hl hlW hi hN hR
    obtain ⟨v', hR⟩ := hR
    obtain ⟨y, M, hyM⟩ : ∃ y M, looks i L = y :: M := by
      cases he : looks i L with
      | nil =>
        have h5 := looks_len i L
        rw [he] at h5
        simp at h5
        omega
      | cons y M => exact ⟨y, M, rfl⟩
    have hnm : nmL L i = y.1 := by unfold nmL; rw [hyM]; rfl
    have hIi := HI.out.looks i
    rw [hyM] at hIi
    have hz : InZ (y.1 : Int) := ⟨by omega, hIi.le _ List.mem_cons_self⟩
    have hst : stM (looks i L) (y.1 : Int) = some (y.2.1, y.2.2) := by rw [hyM, stM_cons, if_pos rfl]
    have hfew := stM_few (L := looks i L) (k := 1000) (by rw [hyM]; exact hIi.len)
    have HLK := Lib.hid (look_ck (p := p) (hR.row.cell 1 (by decide)) hN.mp hfew hz hst)
    have HNX := Lib.hid (show ∀ z, stM (looks (i + 1) L) z = lput (stM (looks i L)) (y.1 : Int) (y.2.2, false) z from fun z => by
      rw [looks_next hyM, hyM]
      exact stM_look hIi.nd z)
    have HN := Lib.hid hN
    have HR := Lib.hid hR
    have HYM := Lib.hid hyM
    have c0 : W.cell? ⟨b1, 0, none⟩ = some (.pointer (some ⟨p, 0, none⟩)) := hN.box.cell 0 (by decide)
    have e5 := HSZ.out.2
    have e6 := HSZ.out.1
    obtain ⟨g1, g2, g3⟩ := HBD.out
    have hbm : ∀ k, b1 ≤ k → k ≠ mb := fun k h6 h7 => by omega
    have hpm : p ≠ mb := fun e => HA.out.pm (by rw [e])
    -- behind the look
    have HAF := Lib.hid (show ∀ W', MpAt W' mb (lput (stM (looks i L)) (y.1 : Int) (y.2.2, false)) → Only (fun k => k = mb) W W' →
        NxI w p mb v b1 0 false (stM (looks (i + 1) L)) W' ∧ RgV (WS.heap.size + 2) b2 p mb v (namesL (looks (i + 1) L)) v' W' from fun W' hm ho =>
      ⟨⟨HN.out.box.only ho (hbm _ (by omega)), HN.out.r2.only ho (hbm _ (by omega)), HN.out.r3.only ho (hbm _ (by omega)), hm.ext (fun z _ => HNX.out z), HN.out.only.trans (ho.mono (fun k hk => .inr (.inr (.inl hk))))⟩,
        HR.out.only ho (hbm _ (by omega)) hpm (fun k hk e => HR.out.vm (by rw [hk, e]))⟩)
    rw [hnm]
    clear hN hR hyM hIi hz hst hfew HNX
    by_cases hij : i = j
    · subst hij
      have hyx : y = x := by
        have h6 := HJ.out.1
        rw [HYM.out] at h6
        injection h6
      subst hyx
      rw [HJ.out.2.1.1, HJ.out.2.1.2] at HLK
      gi_wp2_with (fail)
      refine ⟨trivial, fun _ => by omega, (CallsIn.inRound l (callsIn_wide.2 HLK.out)).mono ?_⟩
      rintro e W5 ⟨rfl, hm5, ho5⟩
      have hq2 := HJ.out.2.1.2
      obtain ⟨hN5, hR5⟩ := HAF.out W5 (by rw [hq2]; exact hm5) ho5
      have HN5 := Lib.hid hN5
      have HR5 := Lib.hid hR5
      have HO5 := Lib.hid ho5
      have k2 := hN5.r2.cell 0 (by decide)
      have k3 := hN5.r3.cell 0 (by decide)
      have f2 := hN5.r2.frozen 0
      have f3 := hN5.r3.frozen 0
      clear hm5 ho5 hN5 hR5 HAF HLK c0 hq2
      gi_wp2_with (fail)
      have o1 := Only.setCell (S := fun k => k = b1 + 1) W5 ⟨b1 + 1, 0, none⟩ rfl (.int .i64 (y.1 : Int))
      have o2 := Only.setCell (S := fun k => k = b1 + 1 + 1) (W5.setCell ⟨b1 + 1, 0, none⟩ (.int .i64 (y.1 : Int))) ⟨b1 + 1 + 1, 0, none⟩ rfl (.bool true)
      have o3 := HO5.out
      refine ⟨⟨Nat.le_trans o3.size (Nat.le_trans o1.size o2.size), fun k o hB hk hc => ?_⟩, rfl, ⟨?_, ?_, ?_, ?_, ?_⟩, v', ?_⟩
      · have hlt := (Array.getElem?_eq_some_iff.1 hk).1
        have s3 := o3.size
        have s1 := o1.size
        exact (o2.block k (by omega) (by omega)).trans ((o1.block k (by omega) (by omega)).trans ((o3.block k hlt (by omega)).trans hk))
      · exact (HN5.out.box.only o1 (by omega)).only o2 (by omega)
      · exact (row_put1 HN5.out.r2 _).only o2 (by omega)
      · exact row_put1 (HN5.out.r3.only o1 (by omega)) _
      · exact (HN5.out.mp.only o1 (by omega)).only o2 (by omega)
      · exact HN5.out.only.trans ((o1.mono (fun k hk => .inr (.inr (.inr (by omega))))).trans (o2.mono (fun k hk => .inr (.inr (.inr (by omega))))))
      · exact (HR5.out.only o1 (by omega) (by omega) (fun k hk e => by
          rcases HR5.out.fr with f | f
          · have := g3 k (by rw [← f]; exact hk); omega
          · have := f k hk; omega)).only o2 (by omega) (by omega) (fun k hk e => by
          rcases HR5.out.fr with f | f
          · have := g3 k (by rw [← f]; exact hk); omega
          · have := f k hk; omega)
    · have hnq : (y.2.1 || y.2.2) = true := by
        obtain ⟨y2, N2, h6, h7⟩ := HJ.out.2.2.2 i (by omega)
        rw [HYM.out] at h6
        injection h6 with h6
        rw [h6]
        exact h7
      have HF0 := Lib.hid (show (!y.2.1 && !y.2.2) = false by
        revert hnq
        cases y.2.1 <;> cases y.2.2 <;> decide)
      clear hnq
      gi_wp2_with (fail)
      refine ⟨trivial, fun _ => by omega, (CallsIn.inRound l (callsIn_wide.2 HLK.out)).mono ?_⟩
      rintro e W5 ⟨he, hm5, ho5⟩
      rw [HF0.out] at he
      subst he
      have HF := Lib.hid (HAF.out W5 hm5 ho5)
      have HO5 := Lib.hid ho5
      clear hm5 ho5 HAF HLK c0 HF0
      gi_wp2_with (fail)
      refine ⟨⟨HO5.out.size, fun k o hB hk hc => (HO5.out.block k (Array.getElem?_eq_some_iff.1 hk).1 (by omega)).trans hk⟩, by omega, HF.out.1, v', HF.out.2⟩
  case stop =>
    rintro D i V hD hi ⟨rfl, hN, hR⟩ hDk
    refine wpIn_ret ?_
    simp only [Exit.inBlock, Exit.then]
    have e5 := HSZ.out.2
    obtain ⟨g1, g2, g3⟩ := HBD.out
    have hDV : D < V.heap.size := (Array.getElem?_eq_some_iff.1 hDk).1
    have hnotc : ∀ k, (∃ o, V.heap[k]? = some o ∧ o.isCells = true) → k ≠ D := fun k ⟨o, h6, h7⟩ e => by
      rw [e, hDk] at h6
      injection h6 with h6
      rw [← h6] at h7
      cases h7
    have hP := (Only.refl (fun k => k = D) V).trans ⟨rfl, rfl, rfl, by simp [World.putObj], fun k _ hk => World.putObj_heap_other hk⟩ (c := V.putObj D (.deferred none))
    refine leaves_one hDk ?_
    have hN2 : NxI w p mb v b1 (x.1 : Int) true (stM (looks (i + 1) L)) (V.putObj D (.deferred none)) :=
      hN.turn hP (by omega) (by omega) (by omega) (by omega) (fun k hk => .inr (.inr (.inr (by omega))))
    have hR2 : CkRg (WS.heap.size + 2) b2 p mb v L (i + 1) (V.putObj D (.deferred none)) := by
      obtain ⟨v', hR⟩ := hR
      exact ⟨v', hR.only hP (by have := HSZ.out.1; omega) (by omega) (fun k hk => hnotc k (cellB_some hR.win (by rw [namesL_len, looks_len]; exact hL) hk))⟩
    have d2 := hN2.r2.cell 0 (by decide)
    have d3 := hN2.r3.cell 0 (by decide)
    refine ⟨.tuple #[.int .i64 (x.1 : Int), .bool true], ?_, ?_, ?_⟩
    · simp [results, Try.f17, go_sem, d2, d3]
    · rw [HJ.out.2.2.1]
    · rw [HJ.out.2.2.1]
      exact nx_done HA.out hN2 hR2 (by omega)
theorem next_ck {w : World} {p mb : Nat} {v : Value} {L : List Fr} (h : CkAt w p v (some mb) L) (I : ClI L) (hL : 0 < L.length) :
    Calls Try.prog 17 #[.pointer (some ⟨p, 0, none⟩)] w (NxP w p v mb L) := callsIn_wide.1 (next_in 12 (Nat.le_refl _) h I hL)
end Go.Proofs.Ytndddfkebbeemaa
