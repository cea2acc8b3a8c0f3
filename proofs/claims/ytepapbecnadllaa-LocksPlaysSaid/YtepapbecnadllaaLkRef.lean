/-
  locks' document: New, Holder, Held, Try.
-/
import Derived.Test.YtepapbecnadllaaLkStep
namespace Go.Proofs.Ytepapbecnadllaa
open Go.RowKit Go

theorem infoTwo : (Try.prog.info? 55).map (fun i => (i.zero, i.size, i.bytes)) = some (some (.agg #[.int .i64 0, .int .i64 0]), 2, 16) := by kernel_rfl
/-- Who holds which lock, as it lies. -/
def twV : List (Int × Nat) → List Value
  | [] => []
  | p :: r => .int .i64 p.1 :: .int .i64 p.2 :: twV r
theorem twV_len : ∀ M : List (Int × Nat), (twV M).length = M.length * 2
  | [] => rfl
  | p :: r => by simp [twV, twV_len r]; omega
theorem twV_append : ∀ M N : List (Int × Nat), twV (M ++ N) = twV M ++ twV N
  | [], N => rfl
  | p :: r, N => by simp [twV, twV_append r N]
theorem twV_at : ∀ (M : List (Int × Nat)) (i : Nat) (x : Int) (l : Nat), M[i]? = some (x, l) → (twV M)[i * 2]? = some (.int .i64 x) ∧ (twV M)[i * 2 + 1]? = some (.int .i64 l)
  | [], _, _, _, h => by simp at h
  | p :: r, 0, x, l, h => by
    simp at h
    subst h
    exact ⟨rfl, rfl⟩
  | p :: r, i + 1, x, l, h => by
    have ih := twV_at r i x l (by simpa using h)
    rw [show (i + 1) * 2 = i * 2 + 2 by omega, show i * 2 + 2 + 1 = (i * 2 + 1) + 2 by omega]
    exact ih

/-- The document's list tells the same. -/
structure Rel (n : Nat) (H : Nat → Int) (M : List (Int × Nat)) : Prop where
  mem : ∀ (x : Int) (l : Nat), (x, l) ∈ M ↔ 0 ≤ x ∧ H l = x
  nodup : M.Nodup
  free : ∀ i, n ≤ i → H i = -1
  low : ∀ i, -1 ≤ H i
  n1 : n ≤ 64
theorem Rel.lt {n : Nat} {H : Nat → Int} {M : List (Int × Nat)} (R : Rel n H M) {x : Int} {l : Nat} (h : (x, l) ∈ M) : l < n := by
  have h1 := (R.mem x l).1 h
  by_cases hl : l < n
  · exact hl
  · have := R.free l (by omega)
    omega
theorem Rel.start (n : Nat) (h : n ≤ 64) : Rel n (fun _ => -1) [] :=
  ⟨fun x l => ⟨fun h => absurd h List.not_mem_nil, fun h => by have := h.2; omega⟩, List.nodup_nil, fun _ _ => rfl, fun _ => by omega, h⟩
theorem Rel.add {n : Nat} {H : Nat → Int} {M : List (Int × Nat)} (R : Rel n H M) {who : Int} {l : Nat} (hw : 0 ≤ who) (hl : l < n) (hh : H l = -1) : Rel n (updH H l who) (M ++ [(who, l)]) := by
  refine ⟨fun x k => ?_, ?_, fun i hi => ?_, fun i => ?_, R.n1⟩
  · rw [List.mem_append, R.mem, List.mem_singleton]
    unfold updH
    constructor
    · rintro (⟨h1, h2⟩ | h)
      · exact ⟨h1, by rw [if_neg (fun e => by subst e; omega)]; exact h2⟩
      · cases h
        exact ⟨hw, if_pos rfl⟩
    · rintro ⟨h1, h2⟩
      by_cases e : k = l
      · subst e
        rw [if_pos rfl] at h2
        subst h2
        exact .inr rfl
      · rw [if_neg e] at h2
        exact .inl ⟨h1, h2⟩
  · rw [List.nodup_append]
    refine ⟨R.nodup, by simp, fun a ha b hb => ?_⟩
    rw [List.mem_singleton] at hb
    subst hb
    intro e
    subst e
    have := (R.mem who l).1 ha
    omega
  · unfold updH
    rw [if_neg (by omega)]; exact R.free i hi
  · unfold updH
    split
    · omega
    · exact R.low i

def refV (n : Nat) (v : Value) (i : Nat) : Value := if i = 0 then .int .i64 n else v
/-- The document's table at r, its list from block B on. -/
structure RefAt (w : World) (B r n : Nat) (M : List (Int × Nat)) (v : Value) : Prop where
  row : RowAt w r 2 (refV n v)
  own : w.ownsRow B 55 2 v M.length (twV M)
  rB : r < B
  bB : B ≤ w.heap.size
theorem RefAt.c0 {w : World} {B r n : Nat} {M : List (Int × Nat)} {v : Value} (R : RefAt w B r n M v) : w.cell? ⟨r, 0, none⟩ = some (.int .i64 n) := R.row.cell 0 (by decide)
theorem RefAt.c1 {w : World} {B r n : Nat} {M : List (Int × Nat)} {v : Value} (R : RefAt w B r n M v) : w.cell? ⟨r, 1, none⟩ = some v := R.row.cell 1 (by decide)
theorem RefAt.later {w w' : World} {B r n : Nat} {M : List (Int × Nat)} {v : Value} (R : RefAt w B r n M v) (h : Below w.heap.size w w') : RefAt w' B r n M v :=
  ⟨R.row.later h, owns_later R.own h, R.rB, Nat.le_trans R.bB h.size⟩
theorem RefAt.only {S : Nat → Prop} {w w' : World} {B r n : Nat} {M : List (Int × Nat)} {v : Value} (R : RefAt w B r n M v) (h : Only S w w') (h1 : ¬ S r) (h2 : ∀ k, v.ownBlock = some k → ¬ S k) : RefAt w' B r n M v :=
  ⟨R.row.only h h1, owns_only R.own h h2, R.rB, Nat.le_trans R.bB h.size⟩
theorem RefAt.slice {w : World} {B r n : Nat} {M : List (Int × Nat)} {v : Value} (R : RefAt w B r n M v) : ∃ a cap, v = .slice a M.length cap ∧
    ∀ i, i < M.length → ∃ g x l, a = some ⟨g, 0, none⟩ ∧ M[i]? = some (x, l) ∧ w.cell? ⟨g, i * 2, none⟩ = some (.int .i64 x) ∧ w.cell? ⟨g, i * 2 + 1, none⟩ = some (.int .i64 l) := by
  obtain ⟨a, cap, rfl, hr⟩ := owns_slice R.own
  refine ⟨a, cap, rfl, fun i hi => ?_⟩
  obtain ⟨g, rfl, _, _, A, t, hA, hx⟩ := hr (by omega)
  have hm : M[i]? = some (M[i].1, M[i].2) := List.getElem?_eq_getElem hi
  obtain ⟨t1, t2⟩ := twV_at M i _ _ hm
  exact ⟨g, _, _, rfl, hm, by rw [cell_of_row _ _ _ _ _ _ hA, hx _ (by omega)]; exact t1, by rw [cell_of_row _ _ _ _ _ _ hA, hx _ (by omega)]; exact t2⟩

/-- What the document's New leaves. -/
def RefNew (w : World) (n : Nat) (e : Ending) (w' : World) : Prop :=
  ∃ r v, e = .returned (.pointer (some ⟨r, 0, none⟩)) ∧ RefAt w' w'.heap.size r n [] v ∧ w.heap.size ≤ r ∧ Below w.heap.size w w'
theorem refnew_at (w : World) (n : Nat) : RefNew w n (.returned (.pointer (some ⟨w.heap.size, 0, none⟩))) (w.alloc (.cells #[.int .i64 n, .slice none 0 0] 31)) :=
  ⟨w.heap.size, .slice none 0 0, rfl, ⟨RowAt.new w _ _ _ _ (fun i hi => by
    rcases (show i = 0 ∨ i = 1 by omega) with rfl | rfl <;> rfl), World.ownsRow_nil _ _ _ _, by simp, Nat.le_refl _⟩, Nat.le_refl _, (Below.refl _ w).alloc (Nat.le_refl _) _⟩
theorem refnew_any (n : Int) (w : World) : Calls Try.prog 11 #[.int .i64 n] w (RefNew w (clampL n)) := by
  have hcs := clampL_cases n
  generalize clampL n = m at hcs
  have HN := Lib.hid (refnew_at w m)
  rcases hcs with ⟨h1, rfl⟩ | ⟨h1, h2, rfl⟩ | ⟨h1, h2, rfl⟩
  all_goals
    go_enter Try.func11, Try.ntmps11
    go_wp2_with (fail)
    go_ret
    exact HN.out

section
variable {w : World} {B r n : Nat} {M : List (Int × Nat)} {v : Value} {H : Nat → Int}
theorem Rel.hold_yes (Q : Rel n H M) {i : Nat} {x : Int} {l : Nat} (h : M[i]? = some (x, l)) : holdV n H l = x := by
  have hm := List.mem_of_getElem? h
  unfold holdV hasB
  rw [if_pos (by have := Q.lt hm; simp; omega), Int.toNat_natCast]
  exact ((Q.mem x l).1 hm).2
theorem Rel.hold_no (Q : Rel n H M) {lock : Int} (h : ∀ i, i < M.length → ∀ x (l : Nat), M[i]? = some (x, l) → (l : Int) ≠ lock) : holdV n H lock = -1 := by
  unfold holdV
  by_cases hb : hasB n lock = true
  · obtain ⟨l, rfl, hl⟩ := hasB_nat hb
    rw [if_pos hb, Int.toNat_natCast]
    by_cases hh : 0 ≤ H l
    · obtain ⟨i, hi, e⟩ := List.mem_iff_getElem.1 ((Q.mem (H l) l).2 ⟨hh, rfl⟩)
      exact absurd rfl (h i hi (H l) l (by rw [List.getElem?_eq_getElem hi, e]))
    · have := Q.low l
      omega
  · rw [if_neg hb]
theorem refholder_any (R : RefAt w B r n M v) (Q : Rel n H M) (hm : M.length ≤ 900) (lock : Int) : Calls Try.prog 21 #[.pointer (some ⟨r, 0, none⟩), .int .i64 lock] w fun e w' => e = .returned (.int .i64 (holdV n H lock)) ∧ w = w' := by
  have c1 := R.c1
  obtain ⟨a, cap, rfl, hr⟩ := R.slice
  have HR := Lib.hid hr
  have HQ := Lib.hid Q
  clear R hr Q
  go_enter Try.func21, Try.ntmps21
  go_wp2_with (fail)
  go_loop [5] (fun i => ∃ k : Nat, k ≤ M.length ∧ i = .int .i64 k ∧ ∀ j, j < k → ∀ x (l : Nat), M[j]? = some (x, l) → (l : Int) ≠ lock) (fun i => M.length - (intOf i).toNat)
  case atStart => exact ⟨0, Nat.zero_le _, rfl, fun j h => absurd h (Nat.not_lt_zero _)⟩
  case round =>
    obtain ⟨k, hk, rfl, hn⟩ := hrel
    have HN := Lib.hid hn
    clear hn
    by_cases hlt : k < M.length
    · obtain ⟨g, x, l, rfl, hm2, cx, cl⟩ := HR.out k hlt
      have HM := Lib.hid hm2
      clear hm2
      by_cases hx : (l : Int) = lock
      · subst hx
        have HV := Lib.hid (HQ.out.hold_yes HM.out)
        go_wp2_with (fail)
        go_ret
        exact ⟨by rw [HV.out]; rfl, rfl⟩
      · have HM2 := Lib.hid (show ∀ j, j < k + 1 → ∀ x (l : Nat), M[j]? = some (x, l) → (l : Int) ≠ lock from fun j hj y q hq => by
          by_cases h : j < k
          · exact HN.out j h y q hq
          · obtain rfl : j = k := by omega
            have e := HM.out
            rw [hq] at e
            cases e
            exact hx)
        have ex : ((l : Int) == lock) = false := by simpa using hx
        clear hx
        go_wp2_with (fail)
        go_round
        case rel => exact ⟨k + 1, hlt, by go_num, HM2.out⟩
        case measure => simp [intOf]; omega
    · obtain rfl : k = M.length := by omega
      have HV := Lib.hid (HQ.out.hold_no HN.out)
      go_wp2_with (fail)
      go_ret
      exact ⟨by rw [HV.out]; rfl, rfl⟩

set_option maxHeartbeats 1000000 in
theorem refheld_any (R : RefAt w B r n M v) (Q : Rel n H M) (hm : M.length ≤ 900) (who : Int) : Calls Try.prog 20 #[.pointer (some ⟨r, 0, none⟩), .int .i64 who] w (HeldAt w (heldW n H who)) := by
  obtain ⟨i0, hi, hz0, hz1, hz2⟩ := info_parts infoInt
  have HR := Lib.hid R
  have HQ := Lib.hid Q
  have hn := Q.n1
  clear R Q
  by_cases hw : 0 ≤ who
  · rw [show heldW n H who = heldL H who n from if_neg (by omega)]
    go_enter Try.func20, Try.ntmps20
    go_wp2_with (fail)
    go_loopw [5, 6] (fun v i wr => ∃ k : Nat, k ≤ n ∧ i = .int .i64 k ∧ Hid (wr.ownsRow w.heap.size 3 1 v (heldL H who k).length ((heldL H who k).map (Value.int .i64))) ∧ Below w.heap.size w wr) (fun _ i _ => n - (intOf i).toNat)
    case atStart => exact ⟨0, Nat.zero_le _, rfl, World.ownsRow_nil _ _ _ _, Below.refl _ _⟩
    case round =>
      obtain ⟨k, hk, rfl, HO, hB⟩ := hrel
      have HB := Lib.hid hB
      clear hB
      have HR2 := Lib.hid (HR.out.later HB.out)
      have c0 := HR2.out.c0
      by_cases hlt : k < n
      · have HV := Lib.hid (show holdV n H k = H k by unfold holdV hasB; rw [if_pos (by simp; omega), Int.toNat_natCast])
        have HLN := Lib.hid (heldL_len H who k)
        go_wp2_with (fail)
        refine (refholder_any HR2.out HQ.out hm k).mono ?_
        rintro e w' ⟨rfl, rfl⟩
        rw [HV.out]
        clear c0
        by_cases hk2 : H k = who
        · have ek : (H k == who) = true := by simp [hk2]
          have HY := Lib.hid (heldL_yes hk2)
          clear hk2
          go_wp2_with (at_builtin; refine wpList_append_one wr rfl _ _ 40 rfl w.heap.size 3 i0 (.int .i64 0) 1 8 Try.underlying40 hi hz0 hz1 hz2 rfl (by decide) _ _ _ #[.int .i64 k] HO.out HB.out.size rfl rfl rfl (one_cell _ _) (Nat.le_trans HLN.out (by omega)) (by decide) ?_)
          intro v' w3 hown ho _
          have HO3 := Lib.hid (show w3.ownsRow w.heap.size 3 1 v' (heldL H who (k + 1)).length ((heldL H who (k + 1)).map (Value.int .i64)) by
            rw [HY.out]
            simpa using hown)
          have HB3 := Lib.hid (ho.below HB.out HB.out.size (fun j hj => (HO.out.lt j hj).1))
          clear hown ho HO HB
          go_wp2_with (fail)
          go_roundw
          case rel => exact ⟨k + 1, hlt, by go_num, HO3, HB3.out⟩
          case measure => simp [intOf]; omega
        · have ek : (H k == who) = false := by simpa using hk2
          have HY := Lib.hid (heldL_no hk2)
          clear hk2
          go_wp2_with (fail)
          go_roundw
          case rel => exact ⟨k + 1, hlt, by go_num, by rw [HY.out]; exact HO, HB.out⟩
          case measure => simp [intOf]; omega
      · obtain rfl : n = k := by omega
        go_wp2_with (fail)
        go_ret
        exact ⟨_, rfl, HO.out, HB.out⟩
  · rw [show heldW n H who = [] from if_pos (by omega)]
    go_enter Try.func20, Try.ntmps20
    go_wp2_with (fail)
    have c0 := HR.out.c0
    go_loop [5, 6] (fun v i => ∃ k : Nat, k ≤ n ∧ i = .int .i64 k ∧ v = .slice none 0 0) (fun _ i => n - (intOf i).toNat)
    case atStart => exact ⟨0, Nat.zero_le _, rfl, rfl⟩
    case round =>
      obtain ⟨k, hk, rfl, rfl⟩ := hrel
      by_cases hlt : k < n
      · go_wp2_with (fail)
        go_round
        case rel => exact ⟨k + 1, hlt, by go_num, rfl⟩
        case measure => simp [intOf]; omega
      · go_wp2_with (fail)
        go_ret
        exact HeldAt.nil w
end
end Go.Proofs.Ytepapbecnadllaa
