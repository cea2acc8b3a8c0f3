/-
  clock: the landed Active: a range over All that asks the map.
-/
import Derived.Test.YtndddfkebbeemaaCkAl
namespace Go.Proofs.Ytndddfkebbeemaa
open Go.RowKit Go.Shelf Go
attribute [local go_sem] Oper.semAt_some

/-- How many of the first k are active. -/
def actN (L : List Fr) (k : Nat) : Nat := actL (L.take k)
theorem actN_one {L : List Fr} {k : Nat} (h : k < L.length) : actN L (k + 1) = actN L k + (if (L[k]'h).2.1 then 1 else 0) := by
  unfold actN actL
  rw [List.take_succ_eq_append_getElem h, List.countP_append, List.countP_singleton]
theorem actN_all (L : List Fr) : actN L L.length = actL L := by unfold actN; rw [List.take_length]
theorem actN_le (L : List Fr) (k : Nat) : actN L k ≤ L.length := Nat.le_trans (actL_le _) (by simp; omega)
theorem field_st (a t : Bool) (W : World) : (Instr.field 53 (.agg #[.bool a, .bool t]) 0).run Try.prog W = .ok (.bool a) W := by kernel_rfl
set_option maxRecDepth 100000 in
set_option maxHeartbeats 4000000 in
theorem active_in (q : Nat) (hq : 9 ≤ q) {X : Thg} {w : World} {d : Option Nat} {m : Bool} {L : List Fr} (I : ClI L) (hlt : ∀ k, X.has k → k < w.heap.size)
    (hA : ∀ W, (∀ k, X.has k → W.heap[k]? = w.heap[k]?) → CkMay W d m L) :
    CallsIn Fence.wide q Try.prog 24 #[.pointer (d.map fun d => ⟨d, 0, none⟩)] w fun e w' => e = .returned (.int .i64 (actL L)) ∧ Below w.heap.size w w' := by
  have h1 : 1 ≤ q := by omega
  obtain ⟨W1, hW1⟩ : ∃ W1, W1 = w.alloc (.cells #[.pointer (d.map fun d => ⟨d, 0, none⟩)] 24) := ⟨_, rfl⟩
  have hS1 : W1.heap.size = w.heap.size + 1 := by rw [hW1]; simp
  have hb1 : Below w.heap.size w W1 := by rw [hW1]; exact (Below.refl _ _).alloc (Nat.le_refl _) _
  have hb0 : Below w.heap.size w (W1.alloc (.cells #[.int .i64 0] 3)) := hb1.alloc hb1.size _
  have HAL := Lib.hid (fun (W : World) (hb : Below w.heap.size w W) => all_gen (X := X) (w := W) I (fun k hk => Nat.lt_of_lt_of_le (hlt k hk) hb.size) (fun V hV => hA V (fun k hk => (hV k hk).trans (hb.block k (hlt k hk)))))
  have HCK := Lib.hid (fun (V : World) (hb : ∀ k, k < w.heap.size → V.heap[k]? = w.heap[k]?) => hA V (fun k hk => hb k (hlt k hk)))
  have HB0 := Lib.hid hb0
  have HR0 := Lib.hid (bx_new W1 0 3)
  have HS0 := Lib.hid (show (W1.alloc (.cells #[.int .i64 0] 3)).heap.size = w.heap.size + 2 by rw [World.size_alloc, hS1])
  have k1 : (W1.alloc (.cells #[.int .i64 0] 3)).cell? ⟨w.heap.size, 0, none⟩ = some (.pointer (d.map fun d => ⟨d, 0, none⟩)) := by
    rw [((Below.refl W1.heap.size W1).alloc (Nat.le_refl _) (.cells #[.int .i64 0] 3)).cell (p := ⟨w.heap.size, 0, none⟩) (by show w.heap.size < W1.heap.size; omega)]
    rw [hW1]; simp [go_sem]
  have HLT := Lib.hid hlt
  have HI := Lib.hid I
  have HN := Lib.hid I.len
  clear hb0 hb1 hA hlt I
  refine callsIn_of_wp_marks Try.func24 rfl trivial ?_ rfl
  simp only [Try.ntmps24, List.size_toArray, List.length_cons, List.length_nil, Nat.reduceAdd, Nat.reduceSub, Array.replicate_succ, Array.replicate_zero, List.push_toArray, List.append_toArray, List.nil_append, List.cons_append]
  generalize hDe : (Option.map (fun d => (⟨d, 0, none⟩ : Addr)) d) = D at *
  gi_wp2_with (fail)
  rw [← hW1, ← hS1]
  have HS1 := Lib.hid hS1
  clear hS1 hW1
  refine ⟨trivial, (callsIn_wide.2 (HAL.out _ HB0.out)).mono ?_⟩
  rintro e w2 ⟨g1, lb1, own1, rfl, hb, hent, hnil, hown, hT⟩
  have HB2 := Lib.hid (HB0.out.trans (hb.mono HB0.out.size))
  have HR2 := Lib.hid (HR0.out.later hb)
  have HK2 := Lib.hid ((hb.cell (p := ⟨w.heap.size, 0, none⟩) (by show w.heap.size < _; rw [HS0.out]; omega)).trans k1)
  have HOWN := Lib.hid (show ∀ k, own1 k → k < w2.heap.size ∧ ¬ k = W1.heap.size from fun k hk => by
    obtain ⟨h2, h3⟩ := hown k hk
    refine ⟨h3, fun e => ?_⟩
    rcases h2 with h | h
    · have := HLT.out k h; have := HS1.out; omega
    · have := HS1.out; rw [HS0.out] at h; omega)
  have hnb : W1.heap.size < w2.heap.size := by have := hb.size; have := HS1.out; rw [HS0.out] at *; omega
  have HENT := Lib.hid hent
  have HT := Lib.hid hT
  clear hb hown hent hT HB0 HR0 HS0 HAL k1
  gi_wp2_with (fail)
  clear hnil
  have hsq := HT.out.solo (q - 1) (by omega) (fun k => k = W1.heap.size) (fun k hk => by rw [hk]; exact hnb) HOWN.out
  have HNX := Lib.hid (show BxAt w2 W1.heap.size (actN L ([] : List (Fin (namesL L).length)).length : Nat) w2 from ⟨by rw [show actN L ([] : List (Fin (namesL L).length)).length = 0 by simp [actN, actL]]; exact HR2.out, Only.refl _ _⟩)
  clear HR2 HOWN HT
  have hxb : w.heap.size ≠ W1.heap.size := by have := HS1.out; omega
  generalize hnbe : W1.heap.size = nb at *
  generalize hbxe : w.heap.size = bx at *
  refine range_o rfl h1 (gf := g1) (lb := lb1) (by simp [go_sem]) trivial HENT.out hsq KpZ.trans (fun W l o o' _ _ _ => KpZ.put W l o') (fun x => rfl)
    (fun pre W => BxAt w2 nb (actN L pre.length : Nat) W) (fun _ _ _ => False) (bx_own (n := fun (pre : List (Fin (namesL L).length)) => (actN L pre.length : Nat)) hnb) (fun _ _ _ _ _ h _ _ => h) HNX.out
    (fun l W0 x a' W' => a' = { tmps := #[.pointer D, .pointer (some ⟨bx, 0, none⟩), .int .i64 0, .pointer (some ⟨nb, 0, none⟩), .int .i64 ((namesL L)[x.val]'x.isLt : Nat), .pointer D, .func (.func g1) #[] lb1, .int .i64 ((namesL L)[x.val]'x.isLt : Nat), undef, undef, undef, undef, undef, undef, undef, undef, undef, undef], defers := [] } ∧ KpZ (fun k => k = nb) l W0 W')
    (fun l _ _ _ W o o' hl h hb ho => ⟨h.1, KpZ.trans h.2 (KpZ.put W l o')⟩) ?assign ?body ?done (fun _ _ _ _ _ _ h => h.elim)
  case assign =>
    intro l pre x V K hl hI hK
    have HK := Lib.hid hK
    have HI2 := Lib.hid hI
    clear hK hI hsq
    simp only [inV, List.zip_toArray, List.zip_cons_cons, List.zip_nil_right, List.foldl_toArray, List.foldl_cons, List.foldl_nil, List.setIfInBounds_toArray, List.set_cons_succ, List.set_cons_zero]
    gi_wp2_with (fail)
    exact HK.out _ V (KeepsFrom.refl _ _) HI2.out ⟨rfl, KpZ.of_below (Below.refl _ _)⟩
  case body =>
    rintro l pre x a' U0 V hl hI ⟨rfl, hk0⟩ hlen2
    obtain ⟨hxl, _⟩ := next_of_some hlen2
    have HK0 := Lib.hid hk0
    have hpl : pre.length < L.length := by have h2 := x.isLt; have h3 := namesL_len L; omega
    obtain ⟨y, hy⟩ : ∃ y, L[pre.length]'hpl = y := ⟨_, rfl⟩
    have hxe : (namesL L)[x.val]'x.isLt = y.1 := by
      have h5 : (namesL L)[x.val]? = some y.1 := by
        unfold namesL
        rw [List.getElem?_map, hxl, List.getElem?_eq_getElem hpl, hy]; rfl
      have h6 := (List.getElem?_eq_some_iff.1 h5).2
      exact h6
    rw [hxe]
    have hmem : y ∈ L := by rw [← hy]; exact List.getElem_mem hpl
    have hst := stM_mem HI.out.nd hmem
    have hz : InZ (y.1 : Int) := ⟨by omega, HI.out.le _ (List.mem_map.2 ⟨y, hmem, rfl⟩)⟩
    have kn : V.cell? ⟨nb, 0, none⟩ = some (.int .i64 (actN L pre.length : Nat)) := hI.row.cell 0 (by decide)
    have kf : V.frozen? ⟨nb, 0, none⟩ = false := hI.row.frozen 0
    have hone := actN_one hpl
    rw [hy] at hone
    have hle := actN_le L pre.length
    have hLl := HN.out
    have HI2 := Lib.hid (hI.step (actN L (pre ++ [x]).length : Nat))
    have HIS := Lib.hid hI
    have hl2 : (pre ++ [x]).length = pre.length + 1 := by simp
    have c0 : V.cell? ⟨bx, 0, none⟩ = some (.pointer D) := (World.cell?_of_block (a := ⟨bx, 0, none⟩) (hI.only.block bx (World.block_lt_of_cell? _ _ HK2.out) hxb)).trans HK2.out
    have hcm := HCK.out V (fun k hk => (hI.only.block k (Nat.lt_of_lt_of_le hk (by have := HB2.out.size; omega)) (by have := HS1.out; omega)).trans (HB2.out.block k hk))
    have HE := Lib.hid (show actN L (pre ++ [x]).length = actN L pre.length + (if y.2.1 then 1 else 0) by rw [hl2, hone])
    rw [hl2, hone] at HI2
    clear hsq hk0 hI hxl hlen2 hone hxe hmem hy
    obtain ⟨y1, a, tt⟩ := y
    dsimp only at *
    cases d with
    | none => exact absurd hcm.2 (fun e => by
      have h9 : L.length = 0 := by rw [e]; rfl
      omega)
    | some p =>
      obtain ⟨v, mo, hat, _⟩ := hcm
      have hlk := hat.look1 hz
      rw [hst] at hlk
      have HLK := Lib.hid (show (Instr.lookup 46 (.map mo) (.int .i64 (y1 : Int)) false).run Try.prog V = .ok (.agg #[.bool a, .bool tt]) V from hlk)
      have c1 := hat.c1
      clear hlk hat hst
      simp only [Option.map_some] at hDe
      subst hDe
      generalize hjl : actN L pre.length = j at *
      have hfd := field_st a tt
      cases a with
      | true =>
        simp only [if_true] at HI2
        rw [show (((j + 1 : Nat)) : Int) = (j : Int) + 1 by omega] at HI2
        gi_wp2_with (first | (refine wpListIn_lookM rfl _ _ _ _ rfl rfl rfl HLK.out ?_) | fail)
        have HON := Lib.hid (show Only (fun k => k = nb) V (V.setCell ⟨nb, 0, none⟩ (.int .i64 ((j : Int) + 1))) from Only.setCell (S := fun k => k = nb) _ ⟨nb, 0, none⟩ rfl _)
        refine ⟨⟨HON.out.size, fun i o hB hi hc => (HON.out.block i (Array.getElem?_eq_some_iff.1 hi).1 (by omega)).trans hi⟩, HK0.out.trans (KpZ.of_only HON.out), ?_⟩
        show BxAt w2 nb ((actN L (pre ++ [x]).length : Nat) : Int) _
        rw [HE.out]
        simp only [if_true]
        rw [show (((j + 1 : Nat)) : Int) = (j : Int) + 1 by omega]
        exact HI2.out
      | false =>
        gi_wp2_with (first | (refine wpListIn_lookM rfl _ _ _ _ rfl rfl rfl HLK.out ?_) | fail)
        refine ⟨KeepsFrom.refl _ _, HK0.out, ?_⟩
        show BxAt w2 nb ((actN L (pre ++ [x]).length : Nat) : Int) _
        rw [HE.out, if_neg (by decide), Nat.add_zero]
        exact HIS.out
  case done =>
    rintro E xs V hE hxs hI hK
    have hlen : xs.length = L.length := by
      have h5 := congrArg List.length hxs
      rw [List.length_map, List.length_range] at h5
      exact h5.trans (namesL_len L)
    rw [hlen, actN_all] at hI
    have kn : V.cell? ⟨nb, 0, none⟩ = some (.int .i64 (actL L : Nat)) := hI.row.cell 0 (by decide)
    have HBV := Lib.hid (show Below bx w V from hI.only.below HB2.out (by have := HB2.out.size; have := HS1.out; omega) (fun k hk => by rw [hk]; have := HS1.out; omega))
    have HK := Lib.hid hK
    have HEE := Lib.hid (show bx ≤ E by have := HS1.out; omega)
    clear hI hK hxs hsq hlen HNX HENT
    obtain ⟨c, hc⟩ : ∃ c, actL L = c := ⟨_, rfl⟩
    rw [hc] at kn
    have HC := Lib.hid hc
    clear hc
    gi_wp2_with (fail)
    refine leaves_one HK.out ?_
    refine ⟨.int .i64 (c : Nat), ?_, by rw [HC.out], ?_⟩
    · simp [results, Try.f24, go_sem]
    · rw [hbxe]
      exact below_putObj HBV.out E _ HEE.out (by have := HBV.out.size; omega)
theorem active_gen {X : Thg} {w : World} {d : Option Nat} {m : Bool} {L : List Fr} (I : ClI L) (hlt : ∀ k, X.has k → k < w.heap.size)
    (hA : ∀ W, (∀ k, X.has k → W.heap[k]? = w.heap[k]?) → CkMay W d m L) :
    Calls Try.prog 24 #[.pointer (d.map fun d => ⟨d, 0, none⟩)] w fun e w' => e = .returned (.int .i64 (actL L)) ∧ Below w.heap.size w w' := callsIn_wide.1 (active_in 9 (Nat.le_refl _) I hlt hA)
end Go.Proofs.Ytndddfkebbeemaa
