/-
  locks: Held.
-/
import Derived.Test.YtepapbecnadllaaLkNew
import Derived.Test.YtepapbecnadllaaOwn
namespace Go.Proofs.Ytepapbecnadllaa
open Go.RowKit Go

theorem infoInt : (Try.prog.info? 3).map (fun i => (i.zero, i.size, i.bytes)) = some (some (.int .i64 0), 1, 8) := by kernel_rfl
theorem info_parts {o : Option TypeInfo} {z : Option Value} {s b : Nat} (h : o.map (fun i => (i.zero, i.size, i.bytes)) = some (z, s, b)) : ∃ i, o = some i ∧ i.zero = z ∧ i.size = s ∧ i.bytes = b := by
  cases o with
  | none => simp at h
  | some i => simp at h; exact ⟨i, rfl, h⟩
theorem slice_to (d c : Nat) (hc : c ≤ 64) (W : World) : (Instr.sliceAt 44 (.pointer (some ⟨d, 2, none⟩)) none (some (.int .i64 c)) none).run Try.prog W = .ok (.slice (some ⟨d, 2, none⟩) c 64) W :=
  run_slice_to (P := Try.prog) Try.underlying44 sizeInt c hc W d 2

/-- The locks below k that who holds. -/
def heldL (H : Nat → Int) (who : Int) : Nat → List Int
  | 0 => []
  | k + 1 => heldL H who k ++ if H k = who then [(k : Int)] else []
theorem heldL_len (H : Nat → Int) (who : Int) (k : Nat) : (heldL H who k).length ≤ k := by
  induction k with
  | zero => exact Nat.le_refl _
  | succ k ih =>
    unfold heldL
    rw [List.length_append]
    split
    · simp; omega
    · simp; omega
theorem heldL_yes {H : Nat → Int} {who : Int} {k : Nat} (h : H k = who) : heldL H who (k + 1) = heldL H who k ++ [(k : Int)] := by
  show heldL H who k ++ (if H k = who then [(k : Int)] else []) = _
  rw [if_pos h]
theorem heldL_no {H : Nat → Int} {who : Int} {k : Nat} (h : H k ≠ who) : heldL H who (k + 1) = heldL H who k := by
  show heldL H who k ++ (if H k = who then [(k : Int)] else []) = _
  rw [if_neg h, List.append_nil]
/-- What Held tells. -/
def heldW (n : Nat) (H : Nat → Int) (who : Int) : List Int := if who < 0 then [] else heldL H who n
/-- A list of ints of the call's own. -/
def HeldAt (w : World) (l : List Int) (e : Ending) (w' : World) : Prop :=
  ∃ v, e = .returned v ∧ w'.ownsRow w.heap.size 3 1 v l.length (l.map (Value.int .i64)) ∧ Below w.heap.size w w'
theorem HeldAt.nil (w : World) : HeldAt w [] (.returned (.slice none 0 0)) w := ⟨_, rfl, World.ownsRow_nil _ _ _ _, Below.refl _ _⟩

theorem HeldAt.slice {w w' : World} {l : List Int} {e : Ending} (h : HeldAt w l e w') : ∃ a cap, e = .returned (.slice a l.length cap) ∧ Below w.heap.size w w' ∧
    (0 < l.length → ∃ g, a = some ⟨g, 0, none⟩ ∧ w.heap.size ≤ g ∧ RowAt w' g l.length (fun i => .int .i64 (l.getD i 0))) := by
  obtain ⟨v, rfl, ho, hb⟩ := h
  obtain ⟨a, cap, rfl, hr⟩ := owns_slice ho
  refine ⟨a, cap, rfl, hb, fun hp => ?_⟩
  obtain ⟨g, rfl, hg, _, A, t, hA, hi⟩ := hr hp
  refine ⟨g, rfl, hg, A, t, hA, fun i hlt => ?_⟩
  have e : l.getD i 0 = l[i] := by rw [List.getD_eq_getElem?_getD, List.getElem?_eq_getElem hlt]; rfl
  rw [hi i (by omega), List.getElem?_map, List.getElem?_eq_getElem hlt]
  show some (Value.int .i64 l[i]) = some (Value.int .i64 (l.getD i 0))
  rw [e]

theorem below_drewN {B : Nat} {a w : World} (h : Below B a w) (m : Nat) : Below B a (w.drewN m) := ⟨h.os, h.tape, h.output, h.size, h.block⟩
theorem held_gone (p : Option Addr) (who : Int) (w : World) (h : LGone w p) : Calls Try.prog 19 #[.pointer p, .int .i64 who] w fun e w' => e = .returned (.slice none 0 0) ∧ Below w.heap.size w w' := by
  have HB := Lib.hid (Below.refl w.heap.size w)
  rcases h with rfl | ⟨d, rfl, h0, h1, _⟩
  · go_enter Try.func19, Try.ntmps19
    go_wp2_with (fail)
    go_ret
    exact ⟨rfl, HB.out⟩
  · by_cases hw : 0 ≤ who
    · have hs : ∀ W, (Instr.sliceAt 44 (.pointer (some ⟨d, 2, none⟩)) none (some (.int .i64 0)) none).run Try.prog W = .ok (.slice (some ⟨d, 2, none⟩) 0 64) W := slice_to d 0 (by decide)
      go_enter Try.func19, Try.ntmps19
      go_wp2_with (fail)
      go_quiet (fail)
      go_wp2_with (fail)
      go_loop [5, 23] (fun v i => v = .slice none 0 0 ∧ i = .int .i64 0) (fun _ _ => 0)
      case atStart => exact ⟨rfl, rfl⟩
      case round =>
        obtain ⟨rfl, rfl⟩ := hrel
        go_wp2_with (fail)
        go_ret
        exact ⟨rfl, below_drewN HB.out _⟩
    · go_enter Try.func19, Try.ntmps19
      go_wp2_with (fail)
      go_ret
      exact ⟨rfl, HB.out⟩

set_option maxHeartbeats 1000000 in
theorem held_at {w : World} {d n : Nat} {H : Nat → Int} (L : LkAt w d n H) (who : Int) : Calls Try.prog 19 #[.pointer (some ⟨d, 0, none⟩), .int .i64 who] w (HeldAt w (heldW n H who)) := by
  by_cases hw : 0 ≤ who
  · obtain ⟨i0, hi, hz0, hz1, hz2⟩ := info_parts infoInt
    rw [show heldW n H who = heldL H who n from if_neg (by omega)]
    have c1 := L.c1
    have hs := slice_to d n L.n1
    have HL := Lib.hid L
    have hn := L.n1
    clear L
    go_enter Try.func19, Try.ntmps19
    go_wp2_with (fail)
    go_quiet (fail)
    have HB := Lib.hid (below_drewN (Below.refl w.heap.size w) nq)
    clear hs c1
    go_wp2_with (fail)
    generalize w.drewN nq = w1 at HB ⊢
    go_loopw [5, 23] (fun v i wr => ∃ k : Nat, k ≤ n ∧ i = .int .i64 k ∧ Hid (wr.ownsRow w.heap.size 3 1 v (heldL H who k).length ((heldL H who k).map (Value.int .i64))) ∧ Below w.heap.size w wr) (fun _ i _ => n - (intOf i).toNat)
    case atStart => exact ⟨0, Nat.zero_le _, rfl, World.ownsRow_nil _ _ _ _, HB.out⟩
    case round =>
      clear HB
      obtain ⟨k, hk, rfl, HO, hB⟩ := hrel
      have HB := Lib.hid hB
      clear hB
      by_cases hlt : k < n
      · have c := (HL.out.later HB.out).at k (by omega)
        have HLN := Lib.hid (heldL_len H who k)
        by_cases hk2 : H k = who
        · have ek : (H k == who) = true := by simp [hk2]
          have HY := Lib.hid (heldL_yes hk2)
          clear hk2
          go_wp2_with (at_builtin; refine wpList_append_one wr rfl _ _ 40 rfl w.heap.size 3 i0 (.int .i64 0) 1 8 Try.underlying40 hi hz0 hz1 hz2 rfl (by decide) _ _ _ #[.int .i64 k] HO.out HB.out.size rfl rfl rfl (one_cell _ _) (Nat.le_trans HLN.out (by omega)) (by decide) ?_)
          intro v' w3 hown ho _
          have HO3 := Lib.hid (show w3.ownsRow w.heap.size 3 1 v' (heldL H who (k + 1)).length ((heldL H who (k + 1)).map (Value.int .i64)) by
            rw [HY.out]
            simpa using hown)
          have HB3 := Lib.hid (ho.below HB.out HB.out.size (fun j hj => (HO.out.lt j hj).1))
          clear hown ho HO HB c
          go_wp2_with (fail)
          go_roundw
          case rel => exact ⟨k + 1, hlt, by go_num, HO3, HB3.out⟩
          case measure => simp [intOf]; omega
        · have ek : (H k == who) = false := by simpa using hk2
          have HY := Lib.hid (heldL_no hk2)
          clear hk2
          go_wp2_with (fail)
          go_roundw
          case rel => exact ⟨k + 1, hlt, by go_num, by rw [HY.out]; exact HO, HB.out⟩
          case measure => simp [intOf]; omega
      · obtain rfl : k = n := by omega
        go_wp2_with (fail)
        go_ret
        exact ⟨_, rfl, HO.out, HB.out⟩
  · rw [show heldW n H who = [] from if_pos (by omega)]
    go_enter Try.func19, Try.ntmps19
    go_wp2_with (fail)
    go_ret
    exact HeldAt.nil w
end Go.Proofs.Ytepapbecnadllaa
