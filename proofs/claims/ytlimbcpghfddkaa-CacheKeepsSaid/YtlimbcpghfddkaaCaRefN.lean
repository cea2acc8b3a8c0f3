/-
  cache's document: New, Frames, Take.
-/
import Derived.Test.YtlimbcpghfddkaaCaRef
namespace Go.Proofs.Ytlimbcpghfddkaa
open Go.RowKit Go

def intV (l : List Int) : List Value := l.map fun x => Value.int .i64 x
theorem intV_len (l : List Int) : (intV l).length = l.length := by simp [intV]
theorem intV_snoc (l : List Int) (x : Int) : intV (l ++ [x]) = intV l ++ (#[Value.int .i64 x] : Array Value).toList := by
  unfold intV
  rw [List.map_append]
  rfl
theorem frsL_take {f : Pl → Bool} {l : List Pl} {k : Nat} (h : k < l.length) : frsL f (l.take (k + 1)) = if f l[k] = true then frsL f (l.take k) ++ [l[k].fr] else frsL f (l.take k) := by
  unfold frsL
  rw [List.take_succ_eq_append_getElem h, List.filter_append, List.map_append]
  by_cases e : f l[k] = true
  · rw [if_pos e, List.filter_cons_of_pos e]
    rfl
  · rw [if_neg e, List.filter_cons_of_neg e, List.filter_nil, List.map_nil, List.append_nil]
theorem frsL_len (f : Pl → Bool) (l : List Pl) : (frsL f l).length ≤ l.length := by
  unfold frsL
  rw [List.length_map]
  exact List.length_filter_le _ _
section
variable {w W : World} {D D' : DC} {A A' : Ca}
/-- A new one, or none. -/
def DNew (w : World) (sz : Nat) (e : Ending) (w' : World) : Prop :=
  ∃ D : DC, e = .returned (.tuple #[.pointer (some ⟨D.d, 0, none⟩), .int .i64 0]) ∧ DAt w' D ⟨sz, 0, []⟩ ∧ Below w.heap.size w w' ∧ ∀ k, D.all [] k → w.heap.size ≤ k
set_option maxRecDepth 100000 in
set_option maxHeartbeats 2000000 in
theorem dnew_no (size : Int) (w : World) (h : mayC size 0 = false) : Calls Try.prog 11 #[.int .i64 size] w fun e w' => e = .returned (.tuple #[.pointer none, .int .i64 2]) ∧ w = w' := by
  have HM := Lib.hid (rmay_any size 0 w)
  rw [h] at HM
  clear h
  go_enter Try.func11, Try.ntmps11
  go_wp2_with (fail)
  refine HM.out.mono ?_
  rintro e w1 ⟨rfl, rfl⟩
  go_wp2_with (fail)
  go_ret2
  exact ⟨rfl, rfl⟩
set_option maxRecDepth 100000 in
set_option maxHeartbeats 2000000 in
theorem dnew_any (sz : Nat) (w : World) (h : mayC sz 0 = true) : Calls Try.prog 11 #[.int .i64 sz] w (DNew w sz) := by
  have HM := Lib.hid (rmay_any sz 0 w)
  rw [h] at HM
  have HN := Lib.hid (show DNew w sz (.returned (.tuple #[.pointer (some ⟨w.heap.size, 0, none⟩), .int .i64 0])) (w.alloc (.cells #[.int .i64 sz, .int .i64 0, .slice none 0 0] 65)) from by
    refine ⟨⟨w.heap.size, none, 0, fun _ => ⟨0, 0, 0, undef⟩⟩, rfl, ⟨RowAt.new w _ _ 3 _ (fun i hi => ?_), RecsAt.nil _ _ _, Nat.zero_le _, fun k hk => (by cases hk), fun e => (by cases e), Fam.nil, ⟨h, List.Pairwise.nil, fun _ h => absurd h List.not_mem_nil, fun _ h => absurd h List.not_mem_nil, fun _ h => absurd h List.not_mem_nil⟩⟩, (Below.refl _ _).alloc (Nat.le_refl _) _, ?_⟩
    · rcases (show i = 0 ∨ i = 1 ∨ i = 2 by omega) with rfl | rfl | rfl <;> rfl
    · rintro k ((hk | hk) | ⟨p, hp, _⟩)
      · rw [hk]
        exact Nat.le_refl _
      · cases hk
      · exact absurd hp List.not_mem_nil)
  clear h
  go_enter Try.func11, Try.ntmps11
  go_wp2_with (fail)
  refine HM.out.mono ?_
  rintro e w1 ⟨rfl, rfl⟩
  go_wp2_with (fail)
  go_ret2
  exact HN.out
/-- Frames, told. -/
def DFrames (w : World) (l : List Int) (e : Ending) (w' : World) : Prop :=
  ∃ v, e = .returned v ∧ w'.ownsRow w.heap.size 3 1 v l.length (intV l) ∧ Below w.heap.size w w'
structure TfAt (w : World) (D : DC) (A : Ca) (l : List Int) (v : Value) (W : World) : Prop where
  at_ : DAt W D A
  own : W.ownsRow w.heap.size 3 1 v l.length (intV l)
  bel : Below w.heap.size w W
theorem TfAt.later {l : List Int} {v : Value} {W W' : World} (H : TfAt w D A l v W) (h : Below W.heap.size W W') : TfAt w D A l v W' :=
  ⟨H.at_.later h, owns_later H.own h, H.bel.trans (h.mono H.bel.size)⟩
theorem TfAt.more {l : List Int} {x : Int} {v v' : Value} {W W' : World} (H : TfAt w D A l v W) (hlt : ∀ k, D.all A.L k → k < w.heap.size) (hown : W'.ownsRow w.heap.size 3 1 v' (l.length + 1) (intV l ++ (#[Value.int .i64 x] : Array Value).toList)) (ho : Only (fun q => v.ownBlock = some q) W W') : TfAt w D A (l ++ [x]) v' W' := by
  have hb : ∀ q, v.ownBlock = some q → w.heap.size ≤ q := fun q h => (H.own.lt q h).1
  refine ⟨H.at_.only ho (fun q hq h => ?_), ?_, ho.below H.bel H.bel.size (fun q h => hb q h)⟩
  · have := hb q h
    have := hlt q hq
    omega
  · rw [intV_snoc, List.length_append]
    exact hown
set_option maxRecDepth 100000 in
set_option maxHeartbeats 4000000 in
theorem dframes_any (R : DAt w D A) (hl : A.L.length ≤ 1000) : Calls Try.prog 50 #[.pointer (some ⟨D.d, 0, none⟩), .bool false] w (DFrames w (frsL Pl.all A.L)) := by
  obtain ⟨i0, hi, hz0, hz1, hz2⟩ := info_parts intInfoC
  have HLT := Lib.hid R.lt
  have HT0 := Lib.hid (show TfAt w D A (frsL Pl.all (A.L.take 0)) (.slice none 0 0) w from ⟨R, World.ownsRow_nil _ _ _ _, Below.refl _ _⟩)
  clear R
  go_enter Try.func50, Try.ntmps50
  go_wp2_with (fail)
  go_loopw [5, 6] (fun v i wr => ∃ (k : Nat) (u : Value), k ≤ A.L.length ∧ i = .int .i64 k ∧ v = u ∧ Hid (TfAt w D A (frsL Pl.all (A.L.take k)) u wr)) (fun _ i _ => A.L.length - (intOf i).toNat)
  case atStart => exact ⟨0, _, Nat.zero_le _, rfl, rfl, HT0⟩
  case round =>
    clear HT0
    obtain ⟨k, u, hk, rfl, rfl, HT⟩ := hrel
    have c2 := HT.out.at_.c2
    by_cases hlt : k < A.L.length
    · obtain ⟨b, ha, k0, k1, _, _⟩ := HT.out.at_.place hlt
      have hltI : (k : Int) < (A.L.length : Int) := by omega
      have HFT := Lib.hid (frsL_take (f := Pl.all) hlt)
      rw [ha] at c2
      clear ha
      generalize A.L[k] = q at *
      have hll := frsL_len Pl.all (A.L.take k)
      rw [List.length_take] at hll
      generalize frsL Pl.all (A.L.take k) = l at *
      obtain ⟨ua, uc, hu, _⟩ := owns_slice HT.out.own
      subst hu
      go_wp2_with (fail)
      go_quiet (fail)
      have HT1 := Lib.hid (HT.out.later (below_drewN (Below.refl wr.heap.size wr) nq))
      have k0' : (wr.drewN nq).cell? ⟨b, k * 2, none⟩ = some (.int .i64 q.fr) := k0
      have c2' : (wr.drewN nq).cell? ⟨D.d, 2, none⟩ = some (.slice (some ⟨b, 0, none⟩) A.L.length D.c) := c2
      clear k0 k1 c2 HT
      generalize wr.drewN nq = w1 at *
      have HOW := Lib.hid HT1.out.own
      have HLE := Lib.hid HT1.out.bel.size
      go_wp2_with (first | (at_builtin; refine wpList_append_one w1 rfl _ _ 52 rfl w.heap.size 3 i0 _ 1 8 Try.underlying52 hi hz0 hz1 hz2 rfl (by decide) _ _ _ #[.int .i64 q.fr] HOW.out HLE.out rfl rfl rfl (one_cell _ _) (by omega) (by decide) ?_; intro v3 w3 hown3 ho3 _) | fail)
      have HT3 := Lib.hid (HT1.out.more HLT.out hown3 ho3)
      clear hown3 ho3 HOW HLE HT1 k0' c2'
      go_roundw
      case rel => exact ⟨k + 1, _, hlt, by go_num, rfl, by rw [HFT.out]; exact HT3⟩
      case measure => simp [intOf]; omega
    · obtain rfl : k = A.L.length := by omega
      rw [List.take_length] at HT
      go_wp2_with (fail)
      go_ret
      exact ⟨_, rfl, HT.out.own, HT.out.bel⟩
set_option maxRecDepth 100000 in
set_option maxHeartbeats 4000000 in
theorem dempty_any (R : DAt w D A) (hl : A.L.length ≤ 1000) : Calls Try.prog 50 #[.pointer (some ⟨D.d, 0, none⟩), .bool true] w (DFrames w (frsL Pl.emp A.L)) := by
  obtain ⟨i0, hi, hz0, hz1, hz2⟩ := info_parts intInfoC
  have HLT := Lib.hid R.lt
  have HT0 := Lib.hid (show TfAt w D A (frsL Pl.emp (A.L.take 0)) (.slice none 0 0) w from ⟨R, World.ownsRow_nil _ _ _ _, Below.refl _ _⟩)
  clear R
  go_enter Try.func50, Try.ntmps50
  go_wp2_with (fail)
  go_loopw [5, 6] (fun v i wr => ∃ (k : Nat) (u : Value), k ≤ A.L.length ∧ i = .int .i64 k ∧ v = u ∧ Hid (TfAt w D A (frsL Pl.emp (A.L.take k)) u wr)) (fun _ i _ => A.L.length - (intOf i).toNat)
  case atStart => exact ⟨0, _, Nat.zero_le _, rfl, rfl, HT0⟩
  case round =>
    clear HT0
    obtain ⟨k, u, hk, rfl, rfl, HT⟩ := hrel
    have c2 := HT.out.at_.c2
    by_cases hlt : k < A.L.length
    · obtain ⟨b, ha, k0, k1, hS, hI⟩ := HT.out.at_.place hlt
      have hltI : (k : Int) < (A.L.length : Int) := by omega
      have HFT := Lib.hid (frsL_take (f := Pl.emp) hlt)
      rw [ha] at c2
      clear ha
      generalize A.L[k] = q at *
      have hll := frsL_len Pl.emp (A.L.take k)
      rw [List.length_take] at hll
      generalize frsL Pl.emp (A.L.take k) = l at *
      obtain ⟨ua, uc, hu, _⟩ := owns_slice HT.out.own
      subst hu
      have c3 : wr.cell? ⟨(D.g q.fr).r, 3, none⟩ = some (.int .i64 q.S.n) := hS.c3
      have c4 := hS.c4
      obtain ⟨ca, cc, hcv, _, _⟩ := hS.chn
      rw [hcv] at c4
      clear hS hI hcv
      generalize (D.g q.fr).r = rq at *
      by_cases he : q.emp = true
      · have heb : ((q.S.ch.length : Int) == (q.S.n : Int)) = true := by
          unfold Pl.emp at he
          have := of_decide_eq_true he
          simp; omega
        rw [if_pos he] at HFT
        clear he
        generalize q.S.ch.length = n1 at *
        generalize q.S.n = n2 at *
        go_wp2_with (fail)
        go_quiet (fail)
        have HT1 := Lib.hid (HT.out.later (below_drewN (Below.refl wr.heap.size wr) nq))
        have k0' : (wr.drewN nq).cell? ⟨b, k * 2, none⟩ = some (.int .i64 q.fr) := k0
        have c2' : (wr.drewN nq).cell? ⟨D.d, 2, none⟩ = some (.slice (some ⟨b, 0, none⟩) A.L.length D.c) := c2
        clear k0 k1 c2 HT c3 c4
        generalize wr.drewN nq = w1 at *
        have HOW := Lib.hid HT1.out.own
        have HLE := Lib.hid HT1.out.bel.size
        go_wp2_with (first | (at_builtin; refine wpList_append_one w1 rfl _ _ 52 rfl w.heap.size 3 i0 _ 1 8 Try.underlying52 hi hz0 hz1 hz2 rfl (by decide) _ _ _ #[.int .i64 q.fr] HOW.out HLE.out rfl rfl rfl (one_cell _ _) (by omega) (by decide) ?_; intro v3 w3 hown3 ho3 _) | fail)
        have HT3 := Lib.hid (HT1.out.more HLT.out hown3 ho3)
        clear hown3 ho3 HOW HLE HT1 k0' c2'
        go_roundw
        case rel => exact ⟨k + 1, _, hlt, by go_num, rfl, by rw [HFT.out]; exact HT3⟩
        case measure => simp [intOf]; omega
      · have heb : ((q.S.ch.length : Int) == (q.S.n : Int)) = false := by
          unfold Pl.emp at he
          rw [decide_eq_true_iff] at he
          simp; omega
        rw [if_neg he] at HFT
        clear he
        generalize q.S.ch.length = n1 at *
        generalize q.S.n = n2 at *
        go_wp2_with (fail)
        go_quiet (fail)
        have HT1 := Lib.hid (HT.out.later (below_drewN (Below.refl wr.heap.size wr) nq))
        clear k0 k1 c2 HT c3 c4
        generalize wr.drewN nq = w1 at *
        go_wp2_with (fail)
        go_roundw
        case rel => exact ⟨k + 1, _, hlt, by go_num, rfl, by rw [HFT.out]; exact HT1⟩
        case measure => simp [intOf]; omega
    · obtain rfl : k = A.L.length := by omega
      rw [List.take_length] at HT
      go_wp2_with (fail)
      go_ret
      exact ⟨_, rfl, HT.out.own, HT.out.bel⟩
end
end Go.Proofs.Ytlimbcpghfddkaa
