/-
  slots: the landed Used: a range over All.
-/
import Derived.Test.YtenfeamohcclaaaSkAl
namespace Go.Proofs.Ytenfeamohcclaaa
open Go.RowKit Go.Shelf Go
attribute [local go_sem] Oper.semAt_some

set_option maxRecDepth 100000 in
set_option maxHeartbeats 4000000 in
theorem used_in (q : Nat) (hq : 9 ≤ q) {X : Thg} {w : World} {d : Option Nat} {m : Bool} {N : Nat} {f : Nat → Ownr} (I : SlI f N) (hlt : ∀ k, X.has k → k < w.heap.size)
    (hA : ∀ W, (∀ k, X.has k → W.heap[k]? = w.heap[k]?) → SkMay W d m N f) :
    CallsIn Fence.wide q Try.prog 19 #[.pointer (d.map fun d => ⟨d, 0, none⟩)] w fun e w' => e = .returned (.int .i64 (cntB (ownB f) N)) ∧ Below w.heap.size w w' := by
  have h1 : 1 ≤ q := by omega
  have hb0 := (Below.refl w.heap.size w).alloc (Nat.le_refl _) (.cells #[.int .i64 0] 3)
  have HAL := Lib.hid (fun (W : World) (hb : Below w.heap.size w W) => all_gen (X := X) (L := allL f N) (w := W) rfl I (fun k hk => Nat.lt_of_lt_of_le (hlt k hk) hb.size) (fun V hV => hA V (fun k hk => (hV k hk).trans (hb.block k (hlt k hk)))))
  have HB0 := Lib.hid hb0
  have HR0 := Lib.hid (bx_new w 0 3)
  have HS0 := Lib.hid (show (w.alloc (.cells #[.int .i64 0] 3)).heap.size = w.heap.size + 1 by simp)
  have HLT := Lib.hid hlt
  have HN := Lib.hid I.le
  clear hb0 hA hlt I
  refine callsIn_of_wp_marks Try.func19 rfl trivial ?_ rfl
  simp only [Try.ntmps19, List.size_toArray, List.length_cons, List.length_nil, Nat.reduceAdd, Nat.reduceSub, Array.replicate_succ, Array.replicate_zero, List.push_toArray, List.append_toArray, List.nil_append, List.cons_append]
  generalize (Option.map (fun d => (⟨d, 0, none⟩ : Addr)) d) = D at *
  gi_wp2_with (fail)
  refine ⟨trivial, (callsIn_wide.2 (HAL.out _ HB0.out)).mono ?_⟩
  rintro e w2 ⟨g1, lb1, own1, rfl, hb, hent, hnil, hown, hT⟩
  have HB2 := Lib.hid (HB0.out.trans (hb.mono HB0.out.size))
  have HR2 := Lib.hid (HR0.out.later hb)
  have HOWN := Lib.hid (show ∀ k, own1 k → k < w2.heap.size ∧ ¬ k = w.heap.size from fun k hk => by
    obtain ⟨h2, h3⟩ := hown k hk
    refine ⟨h3, fun e => ?_⟩
    rcases h2 with h | h
    · have := HLT.out k h; omega
    · rw [HS0.out] at h; omega)
  have hnb : w.heap.size < w2.heap.size := by have := hb.size; rw [HS0.out] at this; omega
  have HENT := Lib.hid hent
  have HT := Lib.hid hT
  clear hb hown hent hT HB0 HR0 HS0 HAL
  gi_wp2_with (fail)
  clear hnil
  have hsq := HT.out.solo (q - 1) (by omega) (fun k => k = w.heap.size) (fun k hk => by rw [hk]; exact hnb) HOWN.out
  have HNX := Lib.hid (show BxAt w2 w.heap.size (([] : List (Fin (allL f N).length)).length : Nat) w2 from ⟨HR2.out, Only.refl _ _⟩)
  clear HR2 HOWN HT
  generalize hnbe : w.heap.size = nb at *
  refine range_o rfl h1 (gf := g1) (lb := lb1) (by simp [go_sem]) trivial HENT.out hsq KpZ.trans (fun W l o o' _ _ _ => KpZ.put W l o') (fun x => rfl)
    (fun pre W => BxAt w2 nb (pre.length : Nat) W) (fun _ _ _ => False) (bx_own (n := fun (pre : List (Fin (allL f N).length)) => (pre.length : Nat)) hnb) (fun _ _ _ _ _ h _ _ => h) HNX.out
    (fun l W0 x a' W' => a' = { tmps := #[.pointer D, undef, .int .i64 0, .pointer (some ⟨nb, 0, none⟩), .pointer D, .func (.func g1) #[] lb1, .int .i64 ((allL f N)[x.val]'x.isLt : Nat), undef, undef, undef], defers := [] } ∧ KpZ (fun k => k = nb) l W0 W')
    (fun l _ _ _ W o o' hl h hb ho => ⟨h.1, KpZ.trans h.2 (KpZ.put W l o')⟩) ?assign ?body ?done (fun _ _ _ _ _ _ h => h.elim)
  case assign =>
    intro l pre x V K hl hI hK
    refine wpIn_skip ?_
    have h9 := hK _ V (KeepsFrom.refl _ _) hI ⟨rfl, KpZ.of_below (Below.refl _ _)⟩
    simpa [Exit.then] using h9
  case body =>
    rintro l pre x a' U0 V hl hI ⟨rfl, hk0⟩ hlen2
    obtain ⟨hxl, _⟩ := next_of_some hlen2
    have HK0 := Lib.hid hk0
    have hpl : pre.length < N := by
      have h2 := x.isLt
      have h3 := allL_len f N
      have h4 := cntB_le (ownB f) N
      omega
    have hpN := HN.out
    have kn : V.cell? ⟨nb, 0, none⟩ = some (.int .i64 (pre.length : Nat)) := hI.row.cell 0 (by decide)
    have kf : V.frozen? ⟨nb, 0, none⟩ = false := hI.row.frozen 0
    have HI2 := Lib.hid (hI.step ((pre ++ [x]).length : Nat))
    have hl2 : (((pre ++ [x]).length : Nat) : Int) = (pre.length : Int) + 1 := by simp
    rw [hl2] at HI2
    have HP2 := Lib.hid hl2
    clear hsq hk0 hI hxl hlen2 hl2
    generalize hjl : pre.length = j at *
    have HJL := Lib.hid hjl
    clear hjl
    gi_wp2_with (fail)
    have HON := Lib.hid (show Only (fun k => k = nb) V (V.setCell ⟨nb, 0, none⟩ (.int .i64 ((j : Int) + 1))) from Only.setCell (S := fun k => k = nb) _ ⟨nb, 0, none⟩ rfl _)
    refine ⟨⟨HON.out.size, fun i o hB hi hc => (HON.out.block i (Array.getElem?_eq_some_iff.1 hi).1 (by omega)).trans hi⟩, HK0.out.trans (KpZ.of_only HON.out), ?_⟩
    show BxAt w2 nb (((pre ++ [x]).length : Nat) : Int) _
    rw [HP2.out]
    exact HI2.out
  case done =>
    rintro E xs V hE hxs hI hK
    have hlen : xs.length = cntB (ownB f) N := by
      have := congrArg List.length hxs
      rw [List.length_map, List.length_range] at this
      exact this.trans (allL_len f N)
    rw [hlen] at hI
    have kn : V.cell? ⟨nb, 0, none⟩ = some (.int .i64 (cntB (ownB f) N : Nat)) := hI.row.cell 0 (by decide)
    have HBV := Lib.hid (hI.only.below HB2.out (by have := HB2.out.size; omega) (fun k hk => by rw [hk]; omega))
    have HK := Lib.hid hK
    have HE := Lib.hid (show nb ≤ E by omega)
    clear hI hK hxs hsq hlen HNX HENT
    obtain ⟨c, hc⟩ : ∃ c, cntB (ownB f) N = c := ⟨_, rfl⟩
    rw [hc] at kn
    have HC := Lib.hid hc
    clear hc
    gi_wp2_with (fail)
    refine leaves_one HK.out ?_
    refine ⟨.int .i64 (c : Nat), ?_, by rw [HC.out], ?_⟩
    · simp [results, Try.f19, go_sem]
    · rw [hnbe]
      exact below_putObj HBV.out E _ HE.out (by have := HBV.out.size; omega)
end Go.Proofs.Ytenfeamohcclaaa
