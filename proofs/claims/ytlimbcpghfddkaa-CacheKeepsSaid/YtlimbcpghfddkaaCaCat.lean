/-
  slices.Concat of two slices of ints; Frames, Empty of the landed cache.
-/
import Derived.Test.YtlimbcpghfddkaaCaThose
import Derived.Test.YtlimbcpghfddkaaNilZero
import Derived.Test.YtlimbcpghfddkaaLexApp
namespace Go.Proofs.Ytlimbcpghfddkaa
open Go.RowKit Go

section
variable {w W : World} {K : KC} {A : Ca}
set_option maxRecDepth 100000 in
set_option maxHeartbeats 2000000 in
theorem kframes_any (R : CaAt w K A) (hl : A.L.length ≤ 1000) : Calls Try.prog 32 #[.pointer (some ⟨K.c, 0, none⟩)] w (DFrames w (frsL Pl.all A.L)) := by
  have HT := Lib.hid (those_any R hl _ (enters_of Try.func54 (by kernel_rfl) rfl) ask_all)
  clear R
  go_enter Try.func32, Try.ntmps32
  go_wp2_with (fail)
  refine HT.out.mono ?_
  rintro e w' ⟨v, rfl, h1, h2⟩
  have HP := Lib.hid (show DFrames w (frsL Pl.all A.L) (.returned v) w' from ⟨v, rfl, h1, h2⟩)
  clear h1 h2 HT
  go_wp2_with (fail)
  go_ret
  exact HP.out
set_option maxRecDepth 100000 in
set_option maxHeartbeats 2000000 in
theorem kempty_any (R : CaAt w K A) (hl : A.L.length ≤ 1000) : Calls Try.prog 31 #[.pointer (some ⟨K.c, 0, none⟩)] w (DFrames w (frsL Pl.emp A.L)) := by
  have HT := Lib.hid (those_any R hl _ (enters_of Try.func42 (by kernel_rfl) rfl) ask_empty)
  clear R
  go_enter Try.func31, Try.ntmps31
  go_wp2_with (fail)
  refine HT.out.mono ?_
  rintro e w' ⟨v, rfl, h1, h2⟩
  have HP := Lib.hid (show DFrames w (frsL Pl.emp A.L) (.returned v) w' from ⟨v, rfl, h1, h2⟩)
  clear h1 h2 HT
  go_wp2_with (fail)
  go_ret
  exact HP.out
theorem wpList_slice_run {P : Program} {w : World} {ops : Array Oper} {rest : List Oper} {o : Oper} {a : Act} {Q : Exit → Act → World → Prop} (hgd : o.guard = none) (t : TypeId) (x : Operand) (lo hh mx : Option Operand) (ho : o.op = .slice t x lo hh mx) (v : Value)
    (hv : (Instr.sliceAt t (a.eval x) (lo.map a.eval) (hh.map a.eval) (mx.map a.eval)).run P w = .ok v w) (h : wpList P ops Q rest (a.put o.dst v) w) : wpList P ops Q (o :: rest) a w :=
  wpList_plain hgd fun _ hK => by
    unfold Oper.wp execOp
    simp only [ho, Sem.run_bind, Sem.run_pure, Result.andThen_ok, hv]
    exact hK _ _ h
/-- A slice of none, with room or without. -/
def GrowP (w : World) (e : Ending) (w' : World) : Prop := ∃ v, e = .returned v ∧ w'.ownsRow w.heap.size 3 1 v 0 [] ∧ Below w.heap.size w w'
set_option maxRecDepth 100000 in
set_option maxHeartbeats 2000000 in
theorem grow_any (n : Nat) (hn : n ≤ 2000) (w : World) : Calls Try.prog 58 #[.slice none 0 0, .int .i64 n] w (GrowP w) := by
  obtain ⟨i0, hi, hz0, hz1, hz2⟩ := info_parts intInfoC
  have HB := Lib.hid (Below.refl w.heap.size w)
  have HN := Lib.hid (World.ownsRow_nil w (base := w.heap.size) (e := 3) (size := 1))
  by_cases h : n = 0
  · subst h
    have HP := Lib.hid (show GrowP w (.returned (.slice none 0 0)) w from ⟨_, rfl, HN.out, HB.out⟩)
    clear HB HN
    go_enter Try.func58, Try.ntmps58
    go_wp2_with (fail)
    go_ret
    exact HP.out
  · have hpI : (0 : Int) < (n : Int) := by omega
    have hp : 0 < n := by omega
    clear h HN
    go_enter Try.func58, Try.ntmps58
    go_wp2_with (first | (at_builtin; refine wpList_append_nil_zeros w rfl _ _ 52 3 rfl w.heap.size 3 i0 (.int .i64 0) 1 8 .i64 .i64 Try.underlying52 Try.underlying3 hi hz0 hz1 hz2 rfl (by decide) rfl n rfl hp (by omega) (by omega) (Nat.le_refl _) ?_; intro v2 w2 hown hb) | fail)
    obtain ⟨a2, c2, rfl, _⟩ := owns_slice hown
    have HP := Lib.hid (show GrowP w (.returned (.slice a2 0 c2)) w2 from ⟨_, rfl, owns_cut hown, hb⟩)
    have S1 : (Instr.sliceAt 52 (.slice a2 n c2) none (some (.int .i64 0)) none).run Try.prog w2 = .ok (.slice a2 0 c2) w2 := run_sub_toN (P := Try.prog) (t := 52) (e := 3) (s := 1) Try.underlying52 (fun _ => by kernel_rfl) a2 n c2 0 (Nat.zero_le _) w2
    clear hown hb HB
    go_wp2_with (fail)
    rw [show (Instr.slice 52 (.slice a2 n c2) none (some (.int .i64 0)) none).run Try.prog w2 = .ok (.slice a2 0 c2) w2 from (run_sliceAt_slice w2 52 _ _ _ _ (by kernel_rfl)).symm.trans S1]
    go_wp2_with (fail)
    go_ret
    exact HP.out
/-- Ints that lie somewhere. -/
def SrcI (w : World) (v : Value) (l : List Int) : Prop := ∃ a c, v = .slice a l.length c ∧ (0 < l.length → ∃ ad, a = some ad ∧ ∀ j u, (intV l)[j]? = some u → w.cell? (ad.add j) = some u)
theorem SrcI.later {v : Value} {l : List Int} (h : SrcI w v l) (hb : Below w.heap.size w W) : SrcI W v l := by
  obtain ⟨a, c, e, hh⟩ := h
  refine ⟨a, c, e, fun hp => ?_⟩
  obtain ⟨ad, e2, h2⟩ := hh hp
  refine ⟨ad, e2, fun j u hj => ?_⟩
  have hc := h2 j u hj
  rw [World.cell?_of_block (hb.block _ (World.block_lt_of_cell? _ _ hc))]
  exact hc
theorem SrcI.of_owns {base : Nat} {v : Value} {l : List Int} (h : w.ownsRow base 3 1 v l.length (intV l)) : SrcI w v l := by
  obtain ⟨a, c, rfl, hh⟩ := owns_slice h
  refine ⟨a, c, rfl, fun hp => ?_⟩
  obtain ⟨g, rfl, _, _, B, t, hB, hx⟩ := hh hp
  refine ⟨_, rfl, fun j u hj => ?_⟩
  have hlt := (List.getElem?_eq_some_iff.1 hj).1
  rw [intV_len] at hlt
  rw [Addr.add_lit, Nat.zero_add, cell_of_row _ _ _ _ _ _ hB, hx j (by omega)]
  exact hj
def sumK (n1 n2 k : Nat) : Nat := if k = 0 then 0 else if k = 1 then n1 else n1 + n2
def appK (l1 l2 : List Int) (k : Nat) : List Int := if k = 0 then [] else if k = 1 then l1 else l1 ++ l2
theorem intV_one (l : List Int) : ∀ u ∈ intV l, u.oneCell' = true := fun u hu => by
  obtain ⟨i, _, rfl⟩ := List.mem_map.1 hu
  rfl
theorem intV_append (l m : List Int) : intV (l ++ m) = intV l ++ intV m := by
  unfold intV
  rw [List.map_append]
structure CatAt (w : World) (l : List Int) (v : Value) (W : World) : Prop where
  own : W.ownsRow w.heap.size 3 1 v l.length (intV l)
  bel : Below w.heap.size w W
theorem CatAt.more {l m : List Int} {v v' : Value} {w' : World} (T : CatAt w l v W) (h : w'.ownsRow w.heap.size 3 1 v' (l.length + m.length) (intV l ++ intV m)) (ho : W.grownBy w' v.ownBlock) : CatAt w (l ++ m) v' w' := by
  refine ⟨?_, (Only.of_grown ho).below T.bel T.bel.size (fun k hk => (T.own.lt k hk).1)⟩
  rw [List.length_append, intV_append]
  exact h
set_option maxRecDepth 100000 in
set_option maxHeartbeats 4000000 in
theorem concat_any {sb : Nat} {v1 v2 : Value} {l1 l2 : List Int} (h1 : SrcI w v1 l1) (h2 : SrcI w v2 l2) (hn1 : l1.length ≤ 1000) (hn2 : l2.length ≤ 1000) (c0 : w.cell? ⟨sb, 0, none⟩ = some v1) (c1 : w.cell? ⟨sb, 1, none⟩ = some v2) :
    Calls Try.prog 39 #[.slice (some ⟨sb, 0, none⟩) 2 2] w (DFrames w (l1 ++ l2)) := by
  obtain ⟨i0, hi, hz0, hz1, hz2⟩ := info_parts intInfoC
  have HS1 := Lib.hid h1
  have HS2 := Lib.hid h2
  obtain ⟨a1, cp1, rfl, _⟩ := h1
  obtain ⟨a2, cp2, rfl, _⟩ := h2
  have HG := Lib.hid (grow_any (l1.length + l2.length) (by omega) w)
  go_enter Try.func39, Try.ntmps39
  go_wp2_with (fail)
  go_loop [3, 11] (fun s i => ∃ k : Nat, k ≤ 2 ∧ i = .int .i64 k ∧ s = .int .i64 (sumK l1.length l2.length k : Nat)) (fun _ i => 2 - (intOf i).toNat)
  case atStart => exact ⟨0, by omega, rfl, rfl⟩
  case round =>
    obtain ⟨k, hk, rfl, rfl⟩ := hrel
    rcases (show k = 0 ∨ k = 1 ∨ k = 2 by omega) with rfl | rfl | rfl
    · rw [show sumK l1.length l2.length 0 = 0 from rfl]
      generalize l1.length = n1 at *
      go_wp2_with (fail)
      go_round
      case rel => exact ⟨0 + 1, by omega, by go_num, by show _ = Value.int .i64 ((n1 : Nat) : Int); go_num⟩
      case measure => simp [intOf]
    · rw [show sumK l1.length l2.length 1 = l1.length from rfl]
      generalize l1.length = n1 at *
      generalize l2.length = n2 at *
      go_wp2_with (fail)
      go_round
      case rel => exact ⟨1 + 1, by omega, by go_num, by show _ = Value.int .i64 ((n1 + n2 : Nat) : Int); go_num⟩
      case measure => simp [intOf]
    · rw [show sumK l1.length l2.length 2 = l1.length + l2.length from rfl]
      go_wp2_with (fail)
      refine HG.out.mono ?_
      rintro e w1 ⟨v, rfl, hown, hb⟩
      have HT := Lib.hid (show CatAt w (appK l1 l2 0) v w1 from ⟨hown, hb⟩)
      have HC0 := Lib.hid c0
      have HC1 := Lib.hid c1
      clear hown hb HG c0 c1
      go_wp2_with (fail)
      go_loopw [6, 27] (fun s i wr => ∃ (k : Nat) (u : Value), k ≤ 2 ∧ i = .int .i64 k ∧ s = u ∧ Hid (CatAt w (appK l1 l2 k) u wr)) (fun _ i _ => 2 - (intOf i).toNat)
      case atStart => exact ⟨0, _, by omega, rfl, rfl, HT⟩
      case round =>
        clear HT
        obtain ⟨k, u, hk, rfl, rfl, HT⟩ := hrel
        have HLE := Lib.hid HT.out.bel.size
        have HOW := Lib.hid HT.out.own
        obtain ⟨ua, uc, hu, _⟩ := owns_slice HT.out.own
        rcases (show k = 0 ∨ k = 1 ∨ k = 2 by omega) with rfl | rfl | rfl
        · have d0 : wr.cell? ⟨sb, 0, none⟩ = some (.slice a1 l1.length cp1) := by
            rw [HT.out.bel.cell (World.block_lt_of_cell? _ _ HC0.out)]
            exact HC0.out
          obtain ⟨q1, q2, e, hsrc⟩ := HS1.out.later HT.out.bel
          injection e with e1 _ e3
          subst e1
          subst e3
          have HSR := Lib.hid hsrc
          clear hsrc
          rw [show appK l1 l2 0 = [] from rfl] at HT HOW hu
          subst hu
          go_wp2_with (first | (at_builtin; refine wpList_append_src _ rfl _ _ 52 rfl w.heap.size 3 i0 _ 1 8 Try.underlying52 hi hz0 hz1 hz2 rfl (by decide) _ _ _ rfl HOW.out a1 l1.length cp1 (intV l1) rfl (by rw [intV_len, Nat.mul_one]) HSR.out (intV_one _) (by unfold maxLen; simp; omega) (by simp; omega) HLE.out ?_; intro v3 w3 hown3 hgr3 _) | fail)
          have HT3 := Lib.hid (HT.out.more hown3 hgr3)
          clear hown3 hgr3 HOW HLE HT d0
          go_roundw
          case rel => exact ⟨0 + 1, _, by omega, by go_num, rfl, by show Hid (CatAt w l1 _ _); exact HT3⟩
          case measure => simp [intOf]
        · have d1 : wr.cell? ⟨sb, 1, none⟩ = some (.slice a2 l2.length cp2) := by
            rw [HT.out.bel.cell (World.block_lt_of_cell? _ _ HC1.out)]
            exact HC1.out
          obtain ⟨q1, q2, e, hsrc⟩ := HS2.out.later HT.out.bel
          injection e with e1 _ e3
          subst e1
          subst e3
          have HSR := Lib.hid hsrc
          clear hsrc
          rw [show appK l1 l2 1 = l1 from rfl] at HT HOW hu
          subst hu
          go_wp2_with (first | (at_builtin; refine wpList_append_src _ rfl _ _ 52 rfl w.heap.size 3 i0 _ 1 8 Try.underlying52 hi hz0 hz1 hz2 rfl (by decide) _ _ _ rfl HOW.out a2 l2.length cp2 (intV l2) rfl (by rw [intV_len, Nat.mul_one]) HSR.out (intV_one _) (by unfold maxLen; omega) (by omega) HLE.out ?_; intro v3 w3 hown3 hgr3 _) | fail)
          have HT3 := Lib.hid (HT.out.more hown3 hgr3)
          clear hown3 hgr3 HOW HLE HT d1
          go_roundw
          case rel => exact ⟨1 + 1, _, by omega, by go_num, rfl, by show Hid (CatAt w (l1 ++ l2) _ _); exact HT3⟩
          case measure => simp [intOf]
        · clear HOW HLE hu
          go_wp2_with (fail)
          go_ret
          exact ⟨_, rfl, HT.out.own, HT.out.bel⟩
end
end Go.Proofs.Ytlimbcpghfddkaa
