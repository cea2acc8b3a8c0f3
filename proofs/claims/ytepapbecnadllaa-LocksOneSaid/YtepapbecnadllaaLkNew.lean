/-
  locks: New, Copy, Held.
-/
import Derived.Test.YtepapbecnadllaaLkMem
namespace Go.Proofs.Ytepapbecnadllaa
open Go.RowKit Go

/-- A build whose run is known. -/
def isBuild : Op → Bool
  | .build .. => true
  | _ => false
theorem wpList_build_run {P : Program} {ops : Array Oper} {rest : List Oper} {op : Oper} {a : Act} {w : World} {Q : Exit → Act → World → Prop} (hgd : op.guard = none) (_ : isBuild op.op = true) (v : Value) (hr : (execOp a.eval op).run P w = .ok (.value v) w)
    (h : wpList P ops Q rest (a.put op.dst v) w) : wpList P ops Q (op :: rest) a w :=
  wpList_plain hgd fun _ hK => by
    unfold Oper.wp
    simp only [hr]
    exact hK _ _ h

def clampL (n : Int) : Nat := if n < 0 then 0 else if 64 < n then 64 else n.toNat
theorem clampL_le (n : Int) : clampL n ≤ 64 := by unfold clampL; split <;> (try split) <;> omega
/-- The cells of a table that is just made. -/
def bornM (n : Int) (m : Nat) : Array Value := #[.bool true, .int .i64 n] ++ Array.replicate m (.int .i64 0)
theorem bornM_at (n : Nat) (m i : Nat) (h : i < m + 2) : (bornM n m)[i]? = some (tbV n (fun _ => 0) i) := by
  unfold bornM tbV
  by_cases h0 : i = 0
  · subst h0
    rw [Array.getElem?_append_left (by simp)]; rfl
  · by_cases h1 : i = 1
    · subst h1
      rw [Array.getElem?_append_left (by simp)]; rfl
    · rw [if_neg h0, if_neg h1, Array.getElem?_append_right (by simp; omega), Array.getElem?_replicate, if_pos (by simp; omega)]
def bornA (n : Int) : Array Value := bornM n 64
theorem bornA_at (n : Nat) (i : Nat) (h : i < 66) : (bornA n)[i]? = some (tbV n (fun _ => 0) i) := bornM_at n 64 i h
/-- The first k locks are free. -/
def begunH (k : Nat) (i : Nat) : Int := if i < k then -1 else 0

/-- What New leaves. -/
def NewAt (w : World) (n : Nat) (e : Ending) (w' : World) : Prop :=
  ∃ d, e = .returned (.pointer (some ⟨d, 0, none⟩)) ∧ LkAt w' d n (fun _ => -1) ∧ w.heap.size ≤ d ∧ Below w.heap.size w w'
theorem begun_step (n k : Nat) (i : Nat) : updV (tbV n (begunH k)) (2 + k) (.int .i64 (-1)) i = tbV n (begunH (k + 1)) i := by
  unfold updV tbV begunH
  by_cases h : i = 2 + k
  · subst h
    rw [if_pos rfl, if_neg (by omega), if_neg (by omega), if_pos (by omega)]
  · rw [if_neg h]
    by_cases h0 : i = 0
    · rw [if_pos h0, if_pos h0]
    · by_cases h1 : i = 1
      · rw [if_neg h0, if_neg h0, if_pos h1, if_pos h1]
      · rw [if_neg h0, if_neg h0, if_neg h1, if_neg h1]
        by_cases h2 : i - 2 < k
        · rw [if_pos h2, if_pos (by omega)]
        · rw [if_neg h2, if_neg (by omega)]
theorem new_clamped (n : Int) (m : Nat) (w : World) (hm : m ≤ 64) (h : (n < 0 ∧ m = 0) ∨ (0 ≤ n ∧ 64 < n ∧ m = 64) ∨ (0 ≤ n ∧ n ≤ 64 ∧ n = m)) : Calls Try.prog 10 #[.int .i64 n] w (NewAt w m) := by
  have HB := Lib.hid ((Below.refl _ w).alloc (Nat.le_refl _) (.cells (bornA m) 46))
  have HR := Lib.hid ((RowAt.new w (bornA m) 46 66 _ (bornA_at m)).ext (g := tbV m (begunH 0)) (fun i _ => rfl))
  have HD := Lib.hid (Nat.le_refl w.heap.size)
  have HM := Lib.hid hm
  rcases h with ⟨h1, rfl⟩ | ⟨h1, h2, rfl⟩ | ⟨h1, h2, rfl⟩
  · have HB : Hid (Below w.heap.size w (w.alloc (.cells (bornA 0) 46))) := HB
    have HR : Hid (RowAt (w.alloc (.cells (bornA 0) 46)) w.heap.size 66 (tbV 0 (begunH 0))) := HR
    generalize hd : w.heap.size = d at *
    go_enter Try.func10, Try.ntmps10
    go_wp2_with (refine wpList_build_run rfl rfl (.agg (bornA 0)) (by kernel_rfl) ?_)
    generalize w.alloc (.cells (bornA 0) 46) = w1 at *
    clear h1
    go_loopw [10] (fun i wr => ∃ k : Nat, k ≤ 64 ∧ i = .int .i64 k ∧ RowAt wr d 66 (tbV 0 (begunH k)) ∧ Below d w wr) (fun i _ => 64 - (intOf i).toNat)
    case atStart => exact ⟨0, by decide, rfl, HR.out, HB.out⟩
    case round =>
      clear HR HB
      obtain ⟨k, hk, rfl, hR, hB⟩ := hrel
      by_cases hlt : k < 64
      · have hlk : (k : Int) < 64 := by omega
        have c : wr.cell? ⟨d, 2 + k, none⟩ = some (.int .i64 (begunH k k)) := by rw [hR.cell (2 + k) (by omega), tbV_lock]
        have f : wr.frozen? ⟨d, 2 + k, none⟩ = false := hR.frozen (2 + k)
        have HN := Lib.hid ((hR.setCell (2 + k) (.int .i64 (-1))).ext (fun i _ => begun_step 0 k i))
        have HBN := Lib.hid (hB.setCell (p := ⟨d, 2 + k, none⟩) (Nat.le_refl _) (.int .i64 (-1)))
        clear hR hB
        go_wp2_with (fail)
        go_roundw
        case rel => exact ⟨k + 1, hlt, by go_num, HN.out, HBN.out⟩
        case measure => simp [intOf]; omega
      · obtain rfl : k = 64 := by omega
        have HN := Lib.hid (show NewAt w 0 (.returned (.pointer (some ⟨d, 0, none⟩))) wr from
          ⟨d, rfl, ⟨hR.ext (fun i hi => by
            unfold tbV begunH
            split
            · rfl
            · split
              · rfl
              · rw [if_pos (by omega)]), HM.out, fun _ _ => rfl, fun _ => by omega⟩, by rw [hd]; exact Nat.le_refl _, by rw [hd]; exact hB⟩)
        clear hR hB
        go_wp2_with (fail)
        go_ret
        exact HN.out
  · have HB : Hid (Below w.heap.size w (w.alloc (.cells (bornA 64) 46))) := HB
    have HR : Hid (RowAt (w.alloc (.cells (bornA 64) 46)) w.heap.size 66 (tbV 64 (begunH 0))) := HR
    generalize hd : w.heap.size = d at *
    go_enter Try.func10, Try.ntmps10
    go_wp2_with (refine wpList_build_run rfl rfl (.agg (bornA 64)) (by kernel_rfl) ?_)
    generalize w.alloc (.cells (bornA 64) 46) = w1 at *
    clear h1 h2
    go_loopw [10] (fun i wr => ∃ k : Nat, k ≤ 64 ∧ i = .int .i64 k ∧ RowAt wr d 66 (tbV 64 (begunH k)) ∧ Below d w wr) (fun i _ => 64 - (intOf i).toNat)
    case atStart => exact ⟨0, by decide, rfl, HR.out, HB.out⟩
    case round =>
      clear HR HB
      obtain ⟨k, hk, rfl, hR, hB⟩ := hrel
      by_cases hlt : k < 64
      · have hlk : (k : Int) < 64 := by omega
        have c : wr.cell? ⟨d, 2 + k, none⟩ = some (.int .i64 (begunH k k)) := by rw [hR.cell (2 + k) (by omega), tbV_lock]
        have f : wr.frozen? ⟨d, 2 + k, none⟩ = false := hR.frozen (2 + k)
        have HN := Lib.hid ((hR.setCell (2 + k) (.int .i64 (-1))).ext (fun i _ => begun_step 64 k i))
        have HBN := Lib.hid (hB.setCell (p := ⟨d, 2 + k, none⟩) (Nat.le_refl _) (.int .i64 (-1)))
        clear hR hB
        go_wp2_with (fail)
        go_roundw
        case rel => exact ⟨k + 1, hlt, by go_num, HN.out, HBN.out⟩
        case measure => simp [intOf]; omega
      · obtain rfl : k = 64 := by omega
        have HN := Lib.hid (show NewAt w 64 (.returned (.pointer (some ⟨d, 0, none⟩))) wr from
          ⟨d, rfl, ⟨hR.ext (fun i hi => by
            unfold tbV begunH
            split
            · rfl
            · split
              · rfl
              · rw [if_pos (by omega)]), HM.out, fun _ _ => rfl, fun _ => by omega⟩, by rw [hd]; exact Nat.le_refl _, by rw [hd]; exact hB⟩)
        clear hR hB
        go_wp2_with (fail)
        go_ret
        exact HN.out
  · generalize hd : w.heap.size = d at *
    go_enter Try.func10, Try.ntmps10
    go_wp2_with (refine wpList_build_run rfl rfl (.agg (bornA (m : Int))) (by kernel_rfl) ?_)
    generalize w.alloc (.cells (bornA (m : Int)) 46) = w1 at *
    clear h1 h2
    go_loopw [10] (fun i wr => ∃ k : Nat, k ≤ 64 ∧ i = .int .i64 k ∧ RowAt wr d 66 (tbV m (begunH k)) ∧ Below d w wr) (fun i _ => 64 - (intOf i).toNat)
    case atStart => exact ⟨0, by decide, rfl, HR.out, HB.out⟩
    case round =>
      clear HR HB
      obtain ⟨k, hk, rfl, hR, hB⟩ := hrel
      by_cases hlt : k < 64
      · have hlk : (k : Int) < 64 := by omega
        have c : wr.cell? ⟨d, 2 + k, none⟩ = some (.int .i64 (begunH k k)) := by rw [hR.cell (2 + k) (by omega), tbV_lock]
        have f : wr.frozen? ⟨d, 2 + k, none⟩ = false := hR.frozen (2 + k)
        have HN := Lib.hid ((hR.setCell (2 + k) (.int .i64 (-1))).ext (fun i _ => begun_step m k i))
        have HBN := Lib.hid (hB.setCell (p := ⟨d, 2 + k, none⟩) (Nat.le_refl _) (.int .i64 (-1)))
        clear hR hB
        go_wp2_with (fail)
        go_roundw
        case rel => exact ⟨k + 1, hlt, by go_num, HN.out, HBN.out⟩
        case measure => simp [intOf]; omega
      · obtain rfl : k = 64 := by omega
        have HN := Lib.hid (show NewAt w m (.returned (.pointer (some ⟨d, 0, none⟩))) wr from
          ⟨d, rfl, ⟨hR.ext (fun i hi => by
            unfold tbV begunH
            split
            · rfl
            · split
              · rfl
              · rw [if_pos (by omega)]), HM.out, fun _ _ => rfl, fun _ => by omega⟩, by rw [hd]; exact Nat.le_refl _, by rw [hd]; exact hB⟩)
        clear hR hB
        go_wp2_with (fail)
        go_ret
        exact HN.out
theorem clampL_cases (n : Int) : (n < 0 ∧ clampL n = 0) ∨ (0 ≤ n ∧ 64 < n ∧ clampL n = 64) ∨ (0 ≤ n ∧ n ≤ 64 ∧ n = clampL n) := by
  unfold clampL
  by_cases h : n < 0
  · exact .inl ⟨h, if_pos h⟩
  · by_cases h2 : 64 < n
    · exact .inr (.inl ⟨by omega, h2, by rw [if_neg h, if_pos h2]⟩)
    · exact .inr (.inr ⟨by omega, by omega, by rw [if_neg h, if_neg h2]; omega⟩)
theorem new_any (n : Int) (w : World) : Calls Try.prog 10 #[.int .i64 n] w (NewAt w (clampL n)) := new_clamped n (clampL n) w (clampL_le n) (clampL_cases n)

theorem infoTable : (Try.prog.info? 46).map (·.size) = some 66 := by kernel_rfl
/-- The cells of a table, as a value. -/
def tbL (n : Nat) (H : Nat → Int) : List Value := (List.range 66).map (tbV n H)
theorem tbL_len (n : Nat) (H : Nat → Int) : (tbL n H).length = 66 := by simp [tbL]
theorem tbL_one (n : Nat) (H : Nat → Int) : (tbL n H).toArray.all (·.oneCell') = true := by
  rw [Array.all_eq_true_iff_forall_mem]
  intro v hv
  have hv : v ∈ tbL n H := by simpa using hv
  obtain ⟨i, _, rfl⟩ := List.mem_map.1 hv
  unfold tbV
  split
  · rfl
  · split
    · rfl
    · rfl
theorem tbL_at (n : Nat) (H : Nat → Int) (i : Nat) (h : i < 66) : (tbL n H).toArray[i]? = some (tbV n H i) := by
  rw [List.getElem?_toArray, tbL, List.getElem?_map, List.getElem?_range h]; rfl
/-- A zero table. -/
def zeroM (m : Nat) : Array Value := #[.bool false] ++ Array.replicate m (.int .i64 0)
theorem zeroM_at (m i : Nat) (h : i < m + 1) : (zeroM m)[i]? = some (if i = 0 then .bool false else .int .i64 0) := by
  unfold zeroM
  by_cases h0 : i = 0
  · subst h0
    rw [Array.getElem?_append_left (by simp)]; rfl
  · rw [if_neg h0, Array.getElem?_append_right (by simp; omega), Array.getElem?_replicate, if_pos (by simp; omega)]
def zeroA : Array Value := zeroM 65
theorem zeroA_at (i : Nat) (h : i < 66) : zeroA[i]? = some (if i = 0 then .bool false else .int .i64 0) := zeroM_at 65 i h
theorem zeroA_size : zeroA.size = 66 := by kernel_rfl
theorem zero_table (W : World) : (zeroValue 46).run Try.prog W = .ok (.agg zeroA) W := by kernel_rfl
theorem store_table (w : World) (n : Nat) (H : Nat → Int) :
    (storeVar 46 ⟨w.heap.size, 0, none⟩ (.agg (tbL n H).toArray)).run Try.prog (w.alloc (.cells zeroA 46)) = .ok () (w.alloc (.cells (tbL n H).toArray 46)) :=
  run_storeVar_new (P := Try.prog) w 46 zeroA _ (by rw [List.size_toArray, tbL_len]; exact infoTable) (zeroA_size.trans (by rw [List.size_toArray, tbL_len])) (tbL_one n H)

theorem copy_gone (p : Option Addr) (w : World) (h : LGone w p) : Calls Try.prog 17 #[.pointer p] w fun e w' => e = .returned (.pointer none) ∧ w = w' := by
  have HG := Lib.hid h
  clear h
  go_enter Try.func17, Try.ntmps17
  go_wp2_with (fail)
  refine (missing_gone p w HG.out).mono ?_
  rintro e w' ⟨rfl, rfl⟩
  go_wp2_with (fail)
  go_ret
  exact ⟨rfl, rfl⟩
/-- What Copy leaves. -/
def CopyAt (w : World) (n : Nat) (H : Nat → Int) (e : Ending) (w' : World) : Prop :=
  ∃ d, e = .returned (.pointer (some ⟨d, 0, none⟩)) ∧ LkAt w' d n H ∧ w.heap.size ≤ d ∧ Below w.heap.size w w'
theorem copy_at {w : World} {d n : Nat} {H : Nat → Int} (L : LkAt w d n H) : Calls Try.prog 17 #[.pointer (some ⟨d, 0, none⟩)] w (CopyAt w n H) := by
  have HL := Lib.hid L
  have HG := Lib.hid (L.row.range 0 (tbL n H) (fun j v hv => by
    have hj : j < 66 := by have := (List.getElem?_eq_some_iff.1 hv).1; simpa [tbL] using this
    rw [tbL, List.getElem?_map, List.getElem?_range hj] at hv
    exact ⟨by omega, by rw [Nat.zero_add]; exact Option.some.inj hv⟩))
  have HN := Lib.hid (show CopyAt w n H (.returned (.pointer (some ⟨w.heap.size, 0, none⟩))) (w.alloc (.cells (tbL n H).toArray 46)) from
    ⟨w.heap.size, rfl, ⟨RowAt.new w _ _ _ _ (tbL_at n H), L.n1, L.free, L.low⟩, Nat.le_refl _, (Below.refl _ w).alloc (Nat.le_refl _) _⟩)
  have HST := Lib.hid (store_table w n H)
  clear L
  go_enter Try.func17, Try.ntmps17
  go_wp2_with (fail)
  refine (missing_at HL.out).mono ?_
  rintro e w' ⟨rfl, rfl⟩
  have hz := zero_table
  go_wp2_with (first | refine wpList_store_run rfl 46 _ _ rfl w.heap.size _ _ rfl rfl HST.out ?_ | refine wpList_load_mid rfl 46 _ rfl d 0 rfl (tbL n H) _ HG.out Try.underlying46 rfl (by rw [tbL_len]; exact infoTable) ?_)
  go_ret
  exact HN.out
end Go.Proofs.Ytepapbecnadllaa
