/-
  slices.Grow, slices.Concat of objects. Of no program that has api.Object.
-/
import Derived.Test.YtagnipkannogoaaObjV
namespace Go.Proofs.Ytagnipkannogoaa
open Go.RowKit Go
section
variable {w W : World}
theorem sliceCells (u v : Value) : (w.alloc (.cells #[u, v] 30)).cell? ⟨w.heap.size, 0, none⟩ = some u ∧ (w.alloc (.cells #[u, v] 30)).cell? ⟨w.heap.size, 1, none⟩ = some v := by
  constructor <;> simp [go_sem]
/-- A slice of none, with room or without. -/
def GrowP (w : World) (e : Ending) (w' : World) : Prop := ∃ v, e = .returned v ∧ w'.ownsRow w.heap.size TO 2 v 0 [] ∧ Below w.heap.size w w'
set_option maxRecDepth 100000 in
set_option maxHeartbeats 2000000 in
theorem grow_any (n : Nat) (hn : n ≤ 100000) (w : World) : Calls Try.prog 30 #[.slice none 0 0, .int .i64 n] w (GrowP w) := by
  obtain ⟨i0, hi, hz0, hz1, hz2⟩ := info_parts infoObj
  have HB := Lib.hid (Below.refl w.heap.size w)
  have HN := Lib.hid (World.ownsRow_nil w (base := w.heap.size) (e := TO) (size := 2))
  by_cases h : n = 0
  · subst h
    have HP := Lib.hid (show GrowP w (.returned (.slice none 0 0)) w from ⟨_, rfl, HN.out, HB.out⟩)
    clear HB HN
    go_enter Try.func30, Try.ntmps30
    go_wp2_with (fail)
    go_ret
    exact HP.out
  · have hpI : (0 : Int) < (n : Int) := by omega
    have hp : 0 < n := by omega
    clear h HN
    go_enter Try.func30, Try.ntmps30
    go_wp2_with (first | (at_builtin; refine wpList_append_nil_zeros w rfl _ _ 30 3 rfl w.heap.size 38 i0 (.agg #[.int .i64 0, .int .i64 0]) 2 16 .i64 .i64 Try.underlying30 Try.underlying3 hi hz0 hz1 hz2 rfl (by decide) rfl n rfl hp (by omega) (by omega) (Nat.le_refl _) ?_; intro v2 w2 hown hb) | fail)
    obtain ⟨a2, c2, rfl, _⟩ := owns_slice hown
    have HP := Lib.hid (show GrowP w (.returned (.slice a2 0 c2)) w2 from ⟨_, rfl, owns_cut hown, hb⟩)
    have S1 : (Instr.sliceAt 30 (.slice a2 n c2) none (some (.int .i64 0)) none).run Try.prog w2 = .ok (.slice a2 0 c2) w2 := run_sub_toN (P := Try.prog) (t := 30) (e := TO) (s := 2) Try.underlying30 (fun _ => by kernel_rfl) a2 n c2 0 (Nat.zero_le _) w2
    clear hown hb HB
    go_wp2_with (fail)
    rw [show (Instr.slice 30 (.slice a2 n c2) none (some (.int .i64 0)) none).run Try.prog w2 = .ok (.slice a2 0 c2) w2 from (run_sliceAt_slice w2 30 _ _ _ _ (by kernel_rfl)).symm.trans S1]
    go_wp2_with (fail)
    go_ret
    exact HP.out
def sumK (n1 n2 k : Nat) : Nat := if k = 0 then 0 else if k = 1 then n1 else n1 + n2
def appK (l1 l2 : Obs) (k : Nat) : Obs := if k = 0 then [] else if k = 1 then l1 else l1 ++ l2
structure CatAt (w : World) (l : Obs) (v : Value) (W : World) : Prop where
  own : W.ownsRow w.heap.size TO 2 v l.length (recV encO l)
  bel : Below w.heap.size w W
theorem CatAt.more {l m : Obs} {v v' : Value} {w' : World} (T : CatAt w l v W) (h : w'.ownsRow w.heap.size TO 2 v' (l.length + m.length) (recV encO l ++ recV encO m)) (ho : W.grownBy w' v.ownBlock) : CatAt w (l ++ m) v' w' := by
  refine ⟨?_, (Only.of_grown ho).below T.bel T.bel.size (fun k hk => (T.own.lt k hk).1)⟩
  rw [List.length_append, recV_append]
  exact h
set_option maxRecDepth 100000 in
set_option maxHeartbeats 4000000 in
theorem concat_any {sb : Nat} {v1 v2 : Value} {l1 l2 : Obs} (h1 : SrcO w v1 l1) (h2 : SrcO w v2 l2) (hn1 : l1.length ≤ 50000) (hn2 : l2.length ≤ 50000) (c0 : w.cell? ⟨sb, 0, none⟩ = some v1) (c1 : w.cell? ⟨sb, 1, none⟩ = some v2) :
    Calls Try.prog 29 #[.slice (some ⟨sb, 0, none⟩) 2 2] w (AllP w (l1 ++ l2)) := by
  obtain ⟨i0, hi, hz0, hz1, hz2⟩ := info_parts infoObj
  have HS1 := Lib.hid h1
  have HS2 := Lib.hid h2
  obtain ⟨a1, cp1, rfl, _⟩ := h1
  obtain ⟨a2, cp2, rfl, _⟩ := h2
  have HG := Lib.hid (grow_any (l1.length + l2.length) (by omega) w)
  go_enter Try.func29, Try.ntmps29
  go_wp2_with (fail)
  go_loop [3, 11] (fun s i => ∃ k : Nat, k ≤ 2 ∧ i = .int .i64 k ∧ s = .int .i64 (sumK l1.length l2.length k : Nat)) (fun _ i => 2 - (intOf i).toNat)
  case atStart => exact ⟨0, by omega, rfl, rfl⟩
  case round =>
    obtain ⟨k, hk, rfl, rfl⟩ := hrel
    rcases (show k = 0 ∨ k = 1 ∨ k = 2 by omega) with rfl | rfl | rfl
    · rw [show sumK l1.length l2.length 0 = 0 from rfl]
      generalize l1.length = n1 at *
      go_wp2_with (fail)
      go_round
      case rel => exact ⟨0 + 1, by omega, by go_num, by show _ = Value.int .i64 ((n1 : Nat) : Int); go_num⟩
      case measure => simp [intOf]
    · rw [show sumK l1.length l2.length 1 = l1.length from rfl]
      generalize l1.length = n1 at *
      generalize l2.length = n2 at *
      go_wp2_with (fail)
      go_round
      case rel => exact ⟨1 + 1, by omega, by go_num, by show _ = Value.int .i64 ((n1 + n2 : Nat) : Int); go_num⟩
      case measure => simp [intOf]
    · rw [show sumK l1.length l2.length 2 = l1.length + l2.length from rfl]
      go_wp2_with (fail)
      refine HG.out.mono ?_
      rintro e w1 ⟨v, rfl, hown, hb⟩
      have HT := Lib.hid (show CatAt w (appK l1 l2 0) v w1 from ⟨hown, hb⟩)
      have HC0 := Lib.hid c0
      have HC1 := Lib.hid c1
      clear hown hb HG c0 c1
      go_wp2_with (fail)
      go_loopw [6, 27] (fun s i wr => ∃ (k : Nat) (u : Value), k ≤ 2 ∧ i = .int .i64 k ∧ s = u ∧ Hid (CatAt w (appK l1 l2 k) u wr)) (fun _ i _ => 2 - (intOf i).toNat)
      case atStart => exact ⟨0, _, by omega, rfl, rfl, HT⟩
      case round =>
        clear HT
        obtain ⟨k, u, hk, rfl, rfl, HT⟩ := hrel
        have HLE := Lib.hid HT.out.bel.size
        have HOW := Lib.hid HT.out.own
        obtain ⟨ua, uc, hu, _⟩ := owns_slice HT.out.own
        rcases (show k = 0 ∨ k = 1 ∨ k = 2 by omega) with rfl | rfl | rfl
        · have d0 : wr.cell? ⟨sb, 0, none⟩ = some (.slice a1 l1.length cp1) := by
            rw [HT.out.bel.cell (World.block_lt_of_cell? _ _ HC0.out)]
            exact HC0.out
          obtain ⟨q1, q2, e, hsrc⟩ := HS1.out.later HT.out.bel
          injection e with e1 _ e3
          subst e1
          subst e3
          have HSR := Lib.hid hsrc
          clear hsrc
          rw [show appK l1 l2 0 = [] from rfl] at HT HOW hu
          subst hu
          go_wp2_with (first | (at_builtin; refine wpList_append_src _ rfl _ _ 30 rfl w.heap.size 38 i0 _ 2 16 Try.underlying30 hi hz0 hz1 hz2 rfl (by decide) _ _ _ rfl HOW.out a1 l1.length cp1 (recV encO l1) rfl (recV_len encO_len _) HSR.out (recV_one encO_one _) (by unfold maxLen; simp; omega) (by simp; omega) HLE.out ?_; intro v3 w3 hown3 hgr3 _) | fail)
          have HT3 := Lib.hid (HT.out.more hown3 hgr3)
          clear hown3 hgr3 HOW HLE HT d0
          go_roundw
          case rel => exact ⟨0 + 1, _, by omega, by go_num, rfl, by show Hid (CatAt w l1 _ _); exact HT3⟩
          case measure => simp [intOf]
        · have d1 : wr.cell? ⟨sb, 1, none⟩ = some (.slice a2 l2.length cp2) := by
            rw [HT.out.bel.cell (World.block_lt_of_cell? _ _ HC1.out)]
            exact HC1.out
          obtain ⟨q1, q2, e, hsrc⟩ := HS2.out.later HT.out.bel
          injection e with e1 _ e3
          subst e1
          subst e3
          have HSR := Lib.hid hsrc
          clear hsrc
          rw [show appK l1 l2 1 = l1 from rfl] at HT HOW hu
          subst hu
          go_wp2_with (first | (at_builtin; refine wpList_append_src _ rfl _ _ 30 rfl w.heap.size 38 i0 _ 2 16 Try.underlying30 hi hz0 hz1 hz2 rfl (by decide) _ _ _ rfl HOW.out a2 l2.length cp2 (recV encO l2) rfl (recV_len encO_len _) HSR.out (recV_one encO_one _) (by unfold maxLen; omega) (by omega) HLE.out ?_; intro v3 w3 hown3 hgr3 _) | fail)
          have HT3 := Lib.hid (HT.out.more hown3 hgr3)
          clear hown3 hgr3 HOW HLE HT d1
          go_roundw
          case rel => exact ⟨1 + 1, _, by omega, by go_num, rfl, by show Hid (CatAt w (l1 ++ l2) _ _); exact HT3⟩
          case measure => simp [intOf]
        · clear HOW HLE hu
          go_wp2_with (fail)
          go_ret
          exact ⟨_, rfl, HT.out.own, HT.out.bel⟩
end
end Go.Proofs.Ytagnipkannogoaa
