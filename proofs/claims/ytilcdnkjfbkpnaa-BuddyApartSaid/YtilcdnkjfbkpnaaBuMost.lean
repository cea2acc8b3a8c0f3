/-
  buddy: Most: slices.Backward over the maps, as an iterator; Blocks of a node, told whole.
-/
import Derived.Test.YtilcdnkjfbkpnaaBuSeq
import Derived.Test.YtilcdnkjfbkpnaaFMapIn
import Derived.ControlIn
namespace Go.Proofs.Ytilcdnkjfbkpnaa
open Go.RowKit Go.Shelf Go
attribute [local go_sem] Oper.semAt_some

section
variable {w : World} {d n : Nat} {mb : Nat → Nat} {tb : Nat} {L T : List (Int × Int)}
theorem blocks_stops (m : Nat) (hm : 1 ≤ m) (Bn : Nat) (C : Nat → Prop) (I : Inv n L T) (N : NodeAt w d n mb tb L T) (hc : w.cell? ⟨Bn, 0, none⟩ = some (.pointer (some ⟨d, 0, none⟩))) (hd : ¬ C d) (ho : ∀ k, own6 mb tb k → ¬ C k) (hBn : ¬ C Bn) (hC : ∀ k, C k → k < w.heap.size) :
    SeqStopsK Fence.wide m Try.prog 36 #[.pointer (some ⟨Bn, 0, none⟩)] (fun x : Fin L.length => #[blk (L[x.val]'x.isLt)]) (KpC C w.heap.size)
      (fun xs => xs.map Fin.val = List.range L.length) (fun pre => ∃ k, k ≤ L.length ∧ pre.map Fin.val = List.range k) L.length w := by
  intro l J Jx W hW hJ _ hY h0
  exact blocks_in m hm l Bn w.heap.size C I J Jx W hJ hY (N.later hW) (by rw [hW.cell (World.block_lt_of_cell? _ _ hc)]; exact hc) hd (fun k hk => ⟨N.own_lt hk, ho k hk⟩) hBn hW.size hC h0
end

/-- What Backward has told down to r. -/
def downL (r : Nat) : List Nat := ((List.range 11).reverse).take (11 - r)
theorem downL_next {s : Nat} (h : s < 11) : downL (s + 1) ++ [s] = downL s := by
  have h2 : ((List.range 11).all fun s => downL (s + 1) ++ [s] == downL s) = true := by decide +kernel
  exact eq_of_beq (List.all_eq_true.1 h2 s (List.mem_range.2 h))
theorem downL_mem {r x : Nat} (h : x < 11) (hr : r ≤ 11) : x ∈ downL r ↔ r ≤ x := by
  have h2 : ((List.range 12).all fun r => (List.range 11).all fun x => (decide (x ∈ downL r)) == decide (r ≤ x)) = true := by decide +kernel
  have h3 := eq_of_beq (List.all_eq_true.1 (List.all_eq_true.1 h2 r (List.mem_range.2 (by omega))) x (List.mem_range.2 h))
  exact decide_eq_decide.1 h3
theorem backward_any (a : Option Addr) (k c : Nat) (w : World) :
    Calls Try.prog 38 #[.slice a k c] w fun e w' => e = .returned (.func (.func 44) #[] #[.pointer (some ⟨w.heap.size, 0, none⟩)]) ∧ w' = w.alloc (.cells #[.slice a k c] 81) := by
  go_enter Try.func38, Try.ntmps38
  go_wp2_with (fail)
  go_ret
  exact ⟨rfl, rfl⟩

set_option maxRecDepth 100000 in
set_option maxHeartbeats 4000000 in
theorem backward_in (m : Nat) (hm : 1 ≤ m) (l Bn B d : Nat) (v : Nat → Value) (J Jx : List (Fin 11) → World → Prop) (w0 : World)
    (hJ : AbidesFrom w0.heap.size J)
    (hY : ∀ pre (x : Fin 11) W, J pre W → pre.length < 11 → YieldAt Fence.wide (m - 1) Try.prog l #[.int .i64 (x.val : Nat), v x.val] W fun e W' =>
      (e = .returned (.bool true) ∧ J (pre ++ [x]) W' ∧ KpC (fun _ => False) B W W') ∨ (e = .returned (.bool false) ∧ Jx (pre ++ [x]) W'))
    (hv : ∀ i, i < 11 → w0.cell? ⟨d, 1 + i, none⟩ = some (v i)) (hc : w0.cell? ⟨Bn, 0, none⟩ = some (.slice (some ⟨d, 1, none⟩) 11 11)) (h0 : J [] w0) :
    CallsIn Fence.wide m Try.prog 44 #[.func (.yield l) #[] #[], .pointer (some ⟨Bn, 0, none⟩)] w0 fun e W' => (∃ v, e = .returned v) ∧
      ((∃ xs : List (Fin 11), xs.map Fin.val = downL 0 ∧ J xs W') ∨ (∃ pre : List (Fin 11), (∃ k, k ≤ 11 ∧ pre.map Fin.val = downL k) ∧ Jx pre W')) := by
  have HY := Lib.hid hY
  have HJ := Lib.hid hJ
  have HC := Lib.hid hc
  have HV := Lib.hid hv
  clear hY hJ hc hv
  refine callsIn_of_wp Try.func44 rfl trivial ?_ rfl
  simp only [Try.ntmps44, List.size_toArray, List.length_cons, List.length_nil, Nat.reduceAdd, Nat.reduceSub, Array.replicate_succ, Array.replicate_zero, List.push_toArray, List.append_toArray, List.nil_append, List.cons_append]
  have h1 := HC.out
  gi_wp2_with (fail)
  clear h1
  gi_loopw [3] (fun x wr => ∃ (r : Nat) (z : Int) (pre : List (Fin 11)), x = .int .i64 z ∧ z = (r : Int) - 1 ∧ r ≤ 11 ∧ Hid (pre.map Fin.val = downL r) ∧ Hid (J pre wr) ∧ Hid (KpC (fun _ => False) B w0 wr)) (fun x _ => (intOf x + 1).toNat)
  case atStart => exact ⟨11, 10, [], rfl, rfl, by decide, rfl, h0, KpC.refl _ _ _⟩
  case round =>
    clear h0
    obtain ⟨r, z, pre, rfl, hz, hr, HPR, HJJ, HK⟩ := hrel
    by_cases hr0 : r = 0
    · subst hr0
      obtain rfl : z = -1 := by omega
      clear hz
      gi_wp2_with (fail)
      go_end0
      exact ⟨⟨_, rfl⟩, .inl ⟨pre, HPR.out, HJJ.out⟩⟩
    · obtain ⟨s, rfl⟩ : ∃ s, r = s + 1 := ⟨r - 1, by omega⟩
      obtain rfl : z = (s : Int) := by omega
      clear hz hr0
      have hs : s < 11 := by omega
      have hlen : pre.length < 11 := by
        have := congrArg List.length HPR.out
        simp [downL] at this
        omega
      have hYj := HY.out pre ⟨s, hs⟩ wr HJJ.out hlen
      dsimp only at hYj
      have cs : wr.cell? ⟨Bn, 0, none⟩ = some (.slice (some ⟨d, 1, none⟩) 11 11) := HK.out.cell HC.out (fun h => h)
      have cv : wr.cell? ⟨d, 1 + s, none⟩ = some (v s) := HK.out.cell (HV.out s hs) (fun h => h)
      have HP2 := Lib.hid (show (pre ++ [(⟨s, hs⟩ : Fin 11)]).map Fin.val = downL s by
        rw [List.map_append, HPR.out, ← downL_next hs]; rfl)
      have hs2 : (s : Int) < 11 := by omega
      obtain ⟨fn, tmps, assign, body, hyy, hR⟩ := hYj
      gi_wp2_with (fail)
      clear cs cv
      refine hR.mono ?_
      rintro e W3 (⟨rfl, hJ3, hk3⟩ | ⟨rfl, hJx3⟩)
      · have HJ3 := Lib.hid hJ3
        have HK3 := Lib.hid (HK.out.trans hk3)
        clear hJ3 hk3 hyy hR HJJ HK
        gi_wp2_with (fail)
        go_roundw
        case rel => exact ⟨s, (s : Int) - 1, _, by go_num, rfl, by omega, HP2, HJ3, HK3⟩
        case measure => simp [intOf]
      · clear hyy hR
        gi_wp2_with (fail)
        refine bodyPost_ret (results_none rfl _ _ _) rfl ?_
        exact ⟨⟨_, rfl⟩, .inr ⟨_, ⟨s, by omega, HP2.out⟩, hJx3⟩⟩

theorem leaves_one {m : Nat} {fn : Func} {tmps : Array Value} {R : Ending → World → Prop} {W : World} {D : Nat} (h1 : W.heap[D]? = some (.deferred (some []))) (h : LeavesInM Fence.wide m Try.prog fn tmps R [] .returning (W.putObj D (.deferred none))) :
    bodyPostM Fence.wide m Try.prog fn R .ret { tmps := tmps, defers := [{ target := Target.collected D, args := #[] }] } W :=
  ⟨by simp, .inl ⟨D, _, rfl, run_takeDeferred h1, h⟩⟩
theorem below_putObj {B : Nat} {w W : World} (h : Below B w W) (D : Nat) (o : Obj) (hD : B ≤ D) (hB : B ≤ W.heap.size) : Below B w (W.putObj D o) :=
  h.grown (grownBy_putObj' W D o) hB (fun k e => by cases e; exact hD)
theorem cell_putObj (W : World) (D : Nat) (o : Obj) (a : Addr) (h : a.block ≠ D) : (W.putObj D o).cell? a = W.cell? a := World.cell?_of_block (World.putObj_heap_other h)
/-- What a map's length says: whether it holds anything. -/
def LenV (W : World) (B : Nat) (v : Value) (e : Prop) : Prop := (v = .map none ∧ ¬ e) ∨ ∃ b f, v = .map (some b) ∧ b < B ∧ FMap Try.prog 3 EU W b f ∧ (e ↔ ∃ x, (f x).isSome = true)
theorem LenV.kept {W W' : World} {B : Nat} {v : Value} {e : Prop} (h : LenV W B v e) (k : KpC (fun _ => False) B W W') : LenV W' B v e := by
  rcases h with h | ⟨b, f, rfl, hb, hF, he⟩
  · exact .inl h
  · exact .inr ⟨b, f, rfl, hb, k.fmap hF hb (fun h => h), he⟩
theorem len_pos {l : List Int} {x : Int} (h : x ∈ l) : 0 < (l.length : Int) := by
  have h1 := List.length_pos_of_mem h
  omega
theorem len_nil {l : List Int} (h : ∀ x, x ∉ l) : l = [] := List.eq_nil_iff_forall_not_mem.2 h
/-- The greatest order. -/
def MstE (E : Nat → Prop) (x : Int) : Prop := (x = -1 ∧ ∀ i, i < 11 → ¬ E i) ∨ ∃ o : Nat, x = o ∧ o < 11 ∧ E o ∧ ∀ i, i < 11 → o < i → ¬ E i

set_option maxRecDepth 100000 in
set_option maxHeartbeats 4000000 in
theorem most_in (m : Nat) (hm : 3 ≤ m) (d : Nat) (v : Nat → Value) (E : Nat → Prop) (w : World) (hv : ∀ i, i < 11 → w.cell? ⟨d, 1 + i, none⟩ = some (v i)) (hE : ∀ i, i < 11 → LenV w w.heap.size (v i) (E i)) :
    CallsIn Fence.wide m Try.prog 22 #[.pointer (some ⟨d, 0, none⟩)] w fun e w' => (∃ x, e = .returned (.int .i64 x) ∧ MstE E x) ∧ Below w.heap.size w w' := by
  have h1 : 1 ≤ m := by omega
  have HV := Lib.hid hv
  have HE := Lib.hid hE
  clear hv hE
  refine callsIn_of_wp_marks Try.func22 rfl trivial ?_ rfl
  simp only [Try.ntmps22, List.size_toArray, List.length_cons, List.length_nil, Nat.reduceAdd, Nat.reduceSub, Array.replicate_succ, Array.replicate_zero, List.push_toArray, List.append_toArray, List.nil_append, List.cons_append]
  gi_wp2_with (fail)
  refine ⟨trivial, (callsIn_wide.2 (backward_any _ _ _ _)).mono ?_⟩
  rintro e w' ⟨rfl, rfl⟩
  gi_wp2_with (fail)
  generalize hrc : w.heap.size = rc at *
  have hb2 : Below rc w ((w.alloc (.cells #[.int .i64 0] 3)).alloc (.cells #[.slice (some ⟨d, 1, none⟩) 11 11] 81)) := by
    rw [← hrc]; exact ((Below.refl _ w).alloc (Nat.le_refl _) _).alloc (by simp) _
  have c0 : ((w.alloc (.cells #[.int .i64 0] 3)).alloc (.cells #[.slice (some ⟨d, 1, none⟩) 11 11] 81)).cell? ⟨rc, 0, none⟩ = some (.int .i64 0) := by rw [← hrc]; simp [go_sem]
  have f0 : ((w.alloc (.cells #[.int .i64 0] 3)).alloc (.cells #[.slice (some ⟨d, 1, none⟩) 11 11] 81)).frozen? ⟨rc, 0, none⟩ = false := by rw [← hrc]; simp [go_sem]
  have cs : ((w.alloc (.cells #[.int .i64 0] 3)).alloc (.cells #[.slice (some ⟨d, 1, none⟩) 11 11] 81)).cell? ⟨rc + 1, 0, none⟩ = some (.slice (some ⟨d, 1, none⟩) 11 11) := by rw [← hrc]; simp [go_sem]
  have hs2 : ((w.alloc (.cells #[.int .i64 0] 3)).alloc (.cells #[.slice (some ⟨d, 1, none⟩) 11 11] 81)).heap.size = rc + 2 := by rw [← hrc]; simp
  generalize (w.alloc (.cells #[.int .i64 0] 3)).alloc (.cells #[.slice (some ⟨d, 1, none⟩) 11 11] 81) = w2 at *
  have hseq : SeqStopsK Fence.wide (m - 1) Try.prog 44 #[.pointer (some ⟨rc + 1, 0, none⟩)] (fun x : Fin 11 => #[.int .i64 (x.val : Nat), v x.val]) (KpC (fun _ => False) rc)
      (fun xs => xs.map Fin.val = downL 0) (fun pre => ∃ k, k ≤ 11 ∧ pre.map Fin.val = downL k) 11 w2 := by
    intro l J Jx W hW hJ _ hY hJ0
    refine backward_in (m - 1) (by omega) l (rc + 1) rc d v J Jx W hJ hY (fun i hi => ?_) (by rw [hW.cell (p := ⟨rc + 1, 0, none⟩) (show rc + 1 < w2.heap.size by omega)]; exact cs) hJ0
    have h := HV.out i hi
    have hlt := World.block_lt_of_cell? _ _ h
    have hlt : d < w.heap.size := hlt
    rw [hW.cell (p := ⟨d, 1 + i, none⟩) (show d < w2.heap.size by omega), hb2.cell (p := ⟨d, 1 + i, none⟩) (show d < rc by omega)]
    exact h
  refine wpIn_rangeFunc_ownF rfl h1 (gf := 44) (lb := #[.pointer (some ⟨rc + 1, 0, none⟩)]) (by simp [go_sem]) trivial (enters_of Try.func44 (by kernel_rfl) rfl) hseq KpC.trans
    (fun W l o o' hl h hc _ => KpC.put l o' (by omega) h hc) (Below.refl _ _) (fun x => rfl)
    (fun pre W => (∀ y ∈ pre, ¬ E y.val) ∧ Below rc w W ∧ W.cell? ⟨rc, 0, none⟩ = some (.int .i64 0) ∧ W.frozen? ⟨rc, 0, none⟩ = false)
    (fun c pre W => c = .ret ∧ ∃ q x, pre = q ++ [x] ∧ (∀ y ∈ q, ¬ E y.val) ∧ E x.val ∧ Below rc w W ∧ W.cell? ⟨rc, 0, none⟩ = some (.int .i64 (x.val : Nat)))
    ?own ?ownx ⟨fun y h => absurd h List.not_mem_nil, hb2, c0, f0⟩
    (fun x => { tmps := #[.pointer (some ⟨d, 0, none⟩), undef, .pointer (some ⟨rc, 0, none⟩), .int .i64 (x.val : Nat), v x.val, .pointer (some ⟨d, 0, none⟩), .bool false, .pointer (some ⟨d, 0, none⟩), .pointer (some ⟨d, 0, none⟩), .pointer (some ⟨d, 1, none⟩), .slice (some ⟨d, 1, none⟩) 11 11, .func (.func 44) #[] #[.pointer (some ⟨rc + 1, 0, none⟩)], .int .i64 (x.val : Nat), v x.val, undef, undef, undef, undef], defers := [] }) ?assign ?body ?done ?stop
  case own =>
    rintro pre A A' row ⟨i1, i2, i3, i4⟩ hg hr
    exact ⟨i1, i2.grown hg (by have := i2.size; omega) (fun r e => by have := (hr r e).1; omega), cell_kept i3 hg (fun r e => (hr r e).2), (frozen_kept i3 hg (fun r e => (hr r e).2)).trans i4⟩
  case ownx =>
    rintro c pre A A' row ⟨i0, q, x, i1, i2, i3, i4, i5⟩ hg hr
    exact ⟨i0, q, x, i1, i2, i3, i4.grown hg (by have := i4.size; omega) (fun r e => by have := (hr r e).1; omega), cell_kept i5 hg (fun r e => (hr r e).2)⟩
  case assign =>
    intro l x W K hK
    gi_wp2
    exact hK
  case body =>
    rintro l pre x W ⟨i1, i2, i3, i4⟩ _
    have hLV := (HE.out x.val x.isLt)
    have HI1 := Lib.hid i1
    have HI2 := Lib.hid i2
    have HI4 := Lib.hid i4
    clear i1 i2 hseq c0 f0 cs
    rcases hLV with ⟨hv0, he⟩ | ⟨b, f, hv0, hbl, hF, he⟩
    · rw [hv0]
      gi_wp2_with (fail)
      refine ⟨KeepsOthers.refl _, KpC.refl _ _ _, fun y hy => ?_, HI2.out, i3, HI4.out⟩
      rcases List.mem_append.1 hy with h | h
      · exact HI1.out y h
      · rw [List.mem_singleton] at h
        subst h; exact he
    · rw [hv0]
      have hFW : FMap Try.prog 3 EU W b f := hF.later (by rw [hrc]; exact HI2.out)
      by_cases hx : E x.val
      · obtain ⟨y0, hy0⟩ := he.1 hx
        gi_wp2_with (refine wpListIn_len_fmap rfl _ _ rfl 3 76 Try.underlying45 EU b f rfl hFW ?_; intro ls hl1 hl2; have hl3 := len_pos ((hl2 y0).2 hy0))
        exact ⟨KeepsOthers.setCell _ _ _, rfl, pre, x, rfl, HI1.out, hx, HI2.out.setCell (p := ⟨rc, 0, none⟩) (Nat.le_refl _) _, World.cell?_setCell_same' _ _ _ (by rw [i3]; rfl)⟩
      · gi_wp2_with (refine wpListIn_len_fmap rfl _ _ rfl 3 76 Try.underlying45 EU b f rfl hFW ?_; intro ls hl1 hl2; obtain rfl := len_nil (fun y hy => hx (he.2 ⟨y, (hl2 y).1 hy⟩)))
        refine ⟨KeepsOthers.refl _, KpC.refl _ _ _, fun y hy => ?_, HI2.out, i3, HI4.out⟩
        rcases List.mem_append.1 hy with h | h
        · exact HI1.out y h
        · rw [List.mem_singleton] at h
          subst h; exact hx
  case done =>
    rintro D xs W hD hxs ⟨i1, i2, i3, i4⟩ hK
    have HM := Lib.hid (show MstE E (-1) from .inl ⟨rfl, fun i hi => by
      have h : i ∈ xs.map Fin.val := by rw [hxs]; exact (downL_mem hi (Nat.zero_le _)).2 (Nat.zero_le _)
      obtain ⟨y, hy, rfl⟩ := List.mem_map.1 h
      exact i1 y hy⟩)
    have HK := Lib.hid hK
    have HB := Lib.hid i2
    clear i1 i2 hK hxs hseq c0 f0 cs
    gi_wp2_with (fail)
    have e7 := HB.out.size
    have hc9 : (W.setCell ⟨rc, 0, none⟩ (.int .i64 (-1))).cell? ⟨rc, 0, none⟩ = some (.int .i64 (-1)) := World.cell?_setCell_same' _ _ _ (by rw [i3]; rfl)
    have hb9 : Below rc w (W.setCell ⟨rc, 0, none⟩ (.int .i64 (-1))) := HB.out.setCell (p := ⟨rc, 0, none⟩) (Nat.le_refl _) _
    refine leaves_one (by rw [Below.heap_setCell W ⟨rc, 0, none⟩ _ _ (by show D ≠ rc; omega)]; exact HK.out) ?_
    refine ⟨.int .i64 (-1), ?_, ⟨-1, rfl, HM.out⟩, ?_⟩
    · have hc10 := cell_putObj (W.setCell ⟨rc, 0, none⟩ (.int .i64 (-1))) D (.deferred none) ⟨rc, 0, none⟩ (by show rc ≠ D; omega)
      rw [hc9] at hc10
      simp [results, Try.f22, go_sem, hc10]
    · rw [hrc]
      exact below_putObj hb9 D _ (by omega) (by have := hb9.size; omega)
  case stop =>
    rintro D c pre W hD ⟨k, hk, hpre⟩ ⟨rfl, q, x, rfl, i1, i2, i3, i4⟩ hK
    have HM := Lib.hid (show MstE E (x.val : Int) from .inr ⟨x.val, rfl, x.isLt, i2, fun i hi hlt => by
      have hx : x.val ∈ downL k := by rw [← hpre]; simp
      have h : i ∈ downL k := (downL_mem hi hk).2 (by have := (downL_mem x.isLt hk).1 hx; omega)
      rw [← hpre, List.map_append, List.mem_append] at h
      rcases h with h | h
      · obtain ⟨y, hy, rfl⟩ := List.mem_map.1 h
        exact i1 y hy
      · simp at h; omega⟩)
    have HK := Lib.hid hK
    have HB := Lib.hid i3
    clear i1 i2 i3 hK hpre hseq c0 f0 cs
    generalize (x.val : Int) = z at *
    gi_wp2_with (fail)
    have e7 := HB.out.size
    refine leaves_one HK.out ?_
    refine ⟨.int .i64 z, ?_, ⟨z, rfl, HM.out⟩, ?_⟩
    · have hc10 := cell_putObj W D (.deferred none) ⟨rc, 0, none⟩ (by show rc ≠ D; omega)
      rw [i4] at hc10
      simp [results, Try.f22, go_sem, hc10]
    · rw [hrc]
      exact below_putObj HB.out D _ (by omega) (by omega)
end Go.Proofs.Ytilcdnkjfbkpnaa
