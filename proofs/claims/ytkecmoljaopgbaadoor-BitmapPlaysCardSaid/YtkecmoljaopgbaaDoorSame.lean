/-
  same: the set and the document's slice of bools say the same.
-/
import Derived.Test.YtkecmoljaopgbaaDoorNil
import Derived.Test.YtkecmoljaopgbaaDoorLen
import Derived.Test.YtkecmoljaopgbaaDoorRef
import Derived.ControlIn
namespace Go.Proofs.YtkecmoljaopgbaaDoor
open Go.RowKit Go.Shelf Go Bm
attribute [local go_sem] Oper.semAt_some

theorem boolRow_of {w : World} {rb n : Nat} {f : Nat → Bool} (R : RefAt w rb n f) : BoolRow w (some ⟨rb, 0, none⟩) n f := fun k hk => ⟨rb, 0, rfl, by rw [Nat.zero_add]; exact R.cell k hk⟩

theorem run_all_nil' (w : World) (a : Value) : (binOp .eql 45 (.func (.func 29) #[] #[a]) .nilFunc).run Tryd.prog w = .ok (.bool false) w := by kernel_rfl

theorem boxes (Q : World) (v : Value) (B : Nat) (hs : Q.heap.size = B) :
    (((Q.alloc (.cells #[.int .i64 0] 3)).alloc (.cells #[v] 24)).alloc (.cells #[v] 24)).cell? ⟨B, 0, none⟩ = some (.int .i64 0) ∧
    (((Q.alloc (.cells #[.int .i64 0] 3)).alloc (.cells #[v] 24)).alloc (.cells #[v] 24)).frozen? ⟨B, 0, none⟩ = false ∧
    (((Q.alloc (.cells #[.int .i64 0] 3)).alloc (.cells #[v] 24)).alloc (.cells #[v] 24)).cell? ⟨B + 1 + 1, 0, none⟩ = some v ∧
    (((Q.alloc (.cells #[.int .i64 0] 3)).alloc (.cells #[v] 24)).alloc (.cells #[v] 24)).heap.size = B + 3 ∧
    Below B Q (((Q.alloc (.cells #[.int .i64 0] 3)).alloc (.cells #[v] 24)).alloc (.cells #[v] 24)) := by
  subst hs
  refine ⟨by simp [go_sem], by simp [go_sem], by simp [go_sem], by simp, (((Below.refl _ _).alloc (Nat.le_refl _) _).alloc (by simp) _).alloc (by simp; omega) _⟩

/-- Next, in whatever world the set and the table lie. -/
theorem next_at (p wb n : Nat) (f : Nat → Bool) (w W : World) (S : SetAt w p wb n f) (hT : TabAt 0 Lib.deBruijn64tab w) (hb : Below w.heap.size w W) (i : Int) :
    Calls Tryd.prog 16 #[.pointer (some ⟨p, 0, none⟩), .int .i64 i] W fun e W' => e = fnd (findN f i.toNat n) ∧ W = W' := by
  have hT' : TabAt 0 Lib.deBruijn64tab W := fun j hj => by rw [hb.cell (World.block_lt_of_cell? _ _ (hT j hj))]; exact hT j hj
  have e : turned f false = f := by funext x; simp [turned]
  have := next_any p wb n f i W (S.later hb) hT'
  rwa [e] at this

/-- Where the counter stands when so many have been told. -/
def At (f : Nat → Bool) (n C : Nat) (pre : List (Fin n)) (W : World) : Prop :=
  ∃ c, c ≤ n ∧ pre.map Fin.val = elemsTo f c ∧ W.cell? ⟨C, 0, none⟩ = some (.int .i64 (c : Nat)) ∧ W.frozen? ⟨C, 0, none⟩ = false

theorem at_own (f : Nat → Bool) (n C B : Nat) (w0 : World) (hB : B ≤ w0.heap.size) : OwnFrom B (fun (pre : List (Fin n)) W => At f n C pre W ∧ Bar C B w0 W) := by
  rintro pre A A' row ⟨⟨c, h1, h2, h3, h4⟩, h5⟩ hg hr
  exact ⟨⟨c, h1, h2, cell_kept h3 hg (fun r e => (hr r e).2), (frozen_kept h3 hg (fun r e => (hr r e).2)).trans h4⟩, bar_grown h5 hB hg (fun r e => (hr r e).1)⟩

/-- The body's own loop: the counter has come to d, nothing between is in. -/
def Inner (f : Nat → Bool) (n C B c : Nat) (W wr : World) : Prop :=
  ∃ d, c ≤ d ∧ d ≤ n ∧ wr.cell? ⟨C, 0, none⟩ = some (.int .i64 (d : Nat)) ∧ wr.frozen? ⟨C, 0, none⟩ = false ∧ (∀ x, c ≤ x → x < d → f x = false) ∧ Bar C B W wr ∧ KeepsOthers W wr
def left (n C : Nat) (wr : World) : Nat := match wr.cell? ⟨C, 0, none⟩ with | some (.int _ q) => n - q.toNat | _ => 0
theorem left_eq {n C d : Nat} {wr : World} (h : wr.cell? ⟨C, 0, none⟩ = some (.int .i64 (d : Nat))) : left n C wr = n - d := by simp [left, h]

/-- The end: the result's cell is set, both ranges' blocks are shut. -/
theorem same_end (m : Nat) (w W : World) (D D2 : Nat) (tmps : Array Value) (ht : tmps[4]?.getD undef = .pointer (some ⟨w.heap.size + 1, 0, none⟩)) (hb : Below w.heap.size w W) (e1 : W.cell? ⟨w.heap.size + 1, 0, none⟩ = some (.bool false)) (_ef : W.frozen? ⟨w.heap.size + 1, 0, none⟩ = false)
    (hK1 : W.heap[D]? = some (.deferred (some []))) (hK2 : W.heap[D2]? = some (.deferred (some []))) (n1 : D ≠ w.heap.size + 1) (n2 : D2 ≠ w.heap.size + 1) (n3 : D ≠ D2) (hD : w.heap.size ≤ D) (hD2 : w.heap.size ≤ D2) (hs : w.heap.size ≤ W.heap.size) :
    bodyPostM Fence.wide m Tryd.prog Tryd.f21 (fun e w' => e = .returned (.bool true) ∧ Below w.heap.size w w') .ret { tmps := tmps, defers := [{ target := Target.collected D2, args := #[] }, { target := Target.collected D, args := #[] }] } (W.setCell ⟨w.heap.size + 1, 0, none⟩ (.bool true)) := by
  have e5 : (W.setCell ⟨w.heap.size + 1, 0, none⟩ (.bool true)).heap[D]? = some (.deferred (some [])) := by rw [Below.heap_setCell W ⟨w.heap.size + 1, 0, none⟩ _ _ n1]; exact hK1
  have e6 : (W.setCell ⟨w.heap.size + 1, 0, none⟩ (.bool true)).heap[D2]? = some (.deferred (some [])) := by rw [Below.heap_setCell W ⟨w.heap.size + 1, 0, none⟩ _ _ n2]; exact hK2
  have e7 : (W.setCell ⟨w.heap.size + 1, 0, none⟩ (.bool true)).heap.size = W.heap.size := by simp [World.setCell]
  have c8 : (W.setCell ⟨w.heap.size + 1, 0, none⟩ (.bool true)).cell? ⟨w.heap.size + 1, 0, none⟩ = some (.bool true) := World.cell?_setCell_same' _ _ _ (by rw [e1]; rfl)
  have b8 : Below w.heap.size w (W.setCell ⟨w.heap.size + 1, 0, none⟩ (.bool true)) := hb.setCell (p := ⟨w.heap.size + 1, 0, none⟩) (Nat.le_succ _) _
  generalize W.setCell ⟨w.heap.size + 1, 0, none⟩ (.bool true) = W8 at *
  refine leaves_two e5 e6 n3 ?_
  refine ⟨.bool true, ?_, rfl, below_putObj (below_putObj b8 D2 _ hD2 (by omega)) D _ hD ?_⟩
  · have c9 : ((W8.putObj D2 (.deferred none)).putObj D (.deferred none)).cell? ⟨w.heap.size + 1, 0, none⟩ = some (.bool true) := by
      rw [cell_putObj _ _ _ _ n1.symm, cell_putObj _ _ _ _ n2.symm]; exact c8
    simp [results, Tryd.f21, go_sem, c9, ht]
  · simp [World.putObj]; omega

set_option maxHeartbeats 2000000 in
theorem same_in (m : Nat) (hm : 3 ≤ m) (p wb rb n : Nat) (f : Nat → Bool) (w : World) (S : SetAt w p wb n f) (R : RefAt w rb n f) (hT : TabAt 0 Lib.deBruijn64tab w) :
    CallsIn Fence.wide m Tryd.prog 21 #[.pointer (some ⟨p, 0, none⟩), refV rb n] w fun e w' => e = .returned (.bool true) ∧ Below w.heap.size w w' := by
  have h1 : 1 ≤ m := by omega
  have hn := S.max
  refine callsIn_of_wp_marks Tryd.func21 rfl trivial ?_ rfl
  simp only [Tryd.ntmps21, List.size_toArray, List.length_cons, List.length_nil, Nat.reduceAdd, Nat.reduceSub, Array.replicate_succ, Array.replicate_zero, List.push_toArray, List.append_toArray, List.nil_append, List.cons_append]
  refine wpIn_wide.2 ?_
  unfold refV
  have hnil := run_all_nil'
  go_wp2_with (fail)
  have cr : ((w.alloc (.cells #[.slice (some ⟨rb, 0, none⟩) n n] 27)).alloc (.cells #[.bool false] 4)).cell? ⟨w.heap.size, 0, none⟩ = some (.slice (some ⟨rb, 0, none⟩) n n) := by simp [go_sem]
  have c1 : ((w.alloc (.cells #[.slice (some ⟨rb, 0, none⟩) n n] 27)).alloc (.cells #[.bool false] 4)).cell? ⟨w.heap.size + 1, 0, none⟩ = some (.bool false) := by simp [go_sem]
  have f1 : ((w.alloc (.cells #[.slice (some ⟨rb, 0, none⟩) n n] 27)).alloc (.cells #[.bool false] 4)).frozen? ⟨w.heap.size + 1, 0, none⟩ = false := by simp [go_sem]
  have hb : Below w.heap.size w ((w.alloc (.cells #[.slice (some ⟨rb, 0, none⟩) n n] 27)).alloc (.cells #[.bool false] 4)) := ((Below.refl _ w).alloc (Nat.le_refl _) _).alloc (by simp) _
  have hs : ((w.alloc (.cells #[.slice (some ⟨rb, 0, none⟩) n n] 27)).alloc (.cells #[.bool false] 4)).heap.size = w.heap.size + 2 := by simp
  obtain ⟨W2, hW2⟩ : ∃ W2, (w.alloc (.cells #[.slice (some ⟨rb, 0, none⟩) n n] 27)).alloc (.cells #[.bool false] 4) = W2 := ⟨_, rfl⟩
  rw [hW2] at cr c1 f1 hb hs ⊢
  clear hW2
  have S1 := S.later hb
  have R1 := R.later hb
  have hz := S1.size
  go_quiet ((first | (go_at_call 23; exact quiet_eq (size_at p n _ (by exact hz))) | (go_at_call 24; exact quiet_eq (len_any p wb n f _ (S1.drewN _))) | (go_at_call 28; exact quiet_eq (reflen_any (some ⟨rb, 0, none⟩) n n f _ (boolRow_of (R1.drewN _)) hn))))
  clear hz
  go_wp2_with (fail)
  refine (all_any _ _).mono ?_
  rintro e w' ⟨rfl, rfl⟩
  go_wp2_with (fail)
  refine (all_any _ _).mono ?_
  rintro e w' ⟨rfl, rfl⟩
  go_wp2_with (fail)
  refine (wpIn_wide (n := m)).1 ?_
  obtain ⟨cC, fC, cS, h5, hb5⟩ := boxes (W2.drewN nq) (.pointer (some ⟨p, 0, none⟩)) (w.heap.size + 2) hs
  have hb5 : Below W2.heap.size W2 ((((W2.drewN nq).alloc (.cells #[.int .i64 0] 3)).alloc (.cells #[.pointer (some ⟨p, 0, none⟩)] 24)).alloc (.cells #[.pointer (some ⟨p, 0, none⟩)] 24)) := (below_drewN (Below.refl _ _) nq).trans (by rw [hs]; exact hb5)
  generalize (((W2.drewN nq).alloc (.cells #[.int .i64 0] 3)).alloc (.cells #[.pointer (some ⟨p, 0, none⟩)] 24)).alloc (.cells #[.pointer (some ⟨p, 0, none⟩)] 24) = W5 at *
  rw [← hb5.cell (p := ⟨w.heap.size, 0, none⟩) (show w.heap.size < W2.heap.size by omega)] at cr
  rw [← hb5.cell (p := ⟨w.heap.size + 1, 0, none⟩) (show w.heap.size + 1 < W2.heap.size by omega)] at c1
  rw [← hb5.frozen (p := ⟨w.heap.size + 1, 0, none⟩) (show w.heap.size + 1 < W2.heap.size by omega)] at f1
  have hw5 : Below w.heap.size w W5 := hb.trans (hb5.mono (by omega))
  have hall : ∀ W, Bar (w.heap.size + 2) (w.heap.size + 5) W5 W → Below w.heap.size w W := fun W h => hw5.trans (below_of_bar h (by omega) (by omega))
  clear S1 R1 hb hb5 hs
  have HA := Lib.hid hall
  clear hall
  have hseq : SeqStopsK Fence.wide (m - 1) Tryd.prog 29 #[.pointer (some ⟨w.heap.size + 4, 0, none⟩)] (fun x : Fin n => #[.int .i64 (x.val : Nat)]) (Bar (w.heap.size + 2) (w.heap.size + 5)) (fun xs => xs.map Fin.val = elemsTo f n) (fun pre => pre.map Fin.val <+: elemsTo f n) n W5 :=
    all_stops (m - 1) (by omega) (w.heap.size + 4) (Bar (w.heap.size + 2) (w.heap.size + 5)) bar_trans (some ⟨p, 0, none⟩) f n hn W5 (fun W h => bar_of_below h (by omega)) (fun W h i => next_at p wb n f w W S hT (HA.out W h) i)
      (fun W h => by rw [World.cell?_of_block (h.block (w.heap.size + 4) (by omega) (by omega))]; exact cS)
  refine wpIn_rangeFunc_ownF rfl h1 (gf := 29) (lb := #[.pointer (some ⟨w.heap.size + 4, 0, none⟩)]) (by simp [go_sem]) trivial (enters_of Tryd.func29 (by kernel_rfl) rfl) hseq bar_trans (fun W l o o' hl _ _ _ => bar_putObj W l o' (by omega)) (Below.refl _ _) (fun x => rfl)
    (fun pre W => At f n (w.heap.size + 2) pre W ∧ Bar (w.heap.size + 2) (w.heap.size + 5) W5 W) (fun _ pre _ => ¬ pre.map Fin.val <+: elemsTo f n) (by rw [h5]; exact at_own f n _ _ W5 (by omega)) (fun _ _ _ _ _ hs _ _ => hs)
    ⟨⟨0, Nat.zero_le _, rfl, cC, fC⟩, Bar.refl _ _ _⟩ (fun x => { tmps := #[.pointer (some ⟨p, 0, none⟩), .slice (some ⟨rb, 0, none⟩) n n, undef, .pointer (some ⟨w.heap.size, 0, none⟩), .pointer (some ⟨w.heap.size + 1, 0, none⟩), .pointer (some ⟨w.heap.size + 2, 0, none⟩), .int .i64 (x.val : Nat), .pointer (some ⟨p, 0, none⟩), .int .i64 n, .slice (some ⟨rb, 0, none⟩) n n, .int .i64 n, .bool false, .bool false, .pointer (some ⟨p, 0, none⟩), .int .i64 (cnt f 0 n : Nat), .slice (some ⟨rb, 0, none⟩) n n, .int .i64 (cnt f 0 n : Nat), .bool false, .bool false, .pointer (some ⟨p, 0, none⟩), .func (.func 29) #[] #[.pointer (some ⟨w.heap.size + 2 + 1, 0, none⟩)], .bool false, .pointer (some ⟨p, 0, none⟩), .func (.func 29) #[] #[.pointer (some ⟨w.heap.size + 2 + 1 + 1, 0, none⟩)], .int .i64 (x.val : Nat), undef, undef, undef, undef, undef, undef, undef, undef, undef, undef, undef, undef, undef, undef, undef, undef, undef, undef, undef, undef, undef, undef, undef, undef, undef, undef, undef, undef, undef, undef, undef, undef, undef, undef, undef, undef, undef, undef], defers := [] }) ?assign ?body ?done ?stop
  case assign =>
    intro l x W K hK
    gi_wp2
    exact hK
  case body =>
    rintro l pre x W ⟨⟨c, hc1, hc2, hc3, hc4⟩, hbar⟩ _
    have hw : ∀ k, k < w.heap.size + 5 → k ≠ w.heap.size + 2 → W.heap[k]? = W5.heap[k]? := hbar.block
    have er : W.cell? ⟨w.heap.size, 0, none⟩ = some (.slice (some ⟨rb, 0, none⟩) n n) := by rw [World.cell?_of_block (hw w.heap.size (by omega) (by omega))]; exact cr
    have e1 : W.cell? ⟨w.heap.size + 1, 0, none⟩ = some (.bool false) := by rw [World.cell?_of_block (hw (w.heap.size + 1) (by omega) (by omega))]; exact c1
    have ef : W.frozen? ⟨w.heap.size + 1, 0, none⟩ = false := by rw [World.frozen?_of_block (hw (w.heap.size + 1) (by omega) (by omega))]; exact f1
    have R2 := R.later (HA.out W hbar)
    have HC2 := Lib.hid hc2
    clear hw hc2
    gi_wp2_with (fail)
    gi_loopw [25] (fun _ wr => Inner f n (w.heap.size + 2) (w.heap.size + 5) c W wr) (fun _ wr => left n (w.heap.size + 2) wr)
    case atStart => exact ⟨c, Nat.le_refl _, hc1, hc3, hc4, fun x a b => by omega, Bar.refl _ _ _, KeepsOthers.refl _⟩
    case round =>
      obtain ⟨d, d1, d2, d3, d4, d5, d6, d7⟩ := hrel
      have hbar2 := bar_trans hbar d6
      have er2 : wr.cell? ⟨w.heap.size, 0, none⟩ = some (.slice (some ⟨rb, 0, none⟩) n n) := by rw [World.cell?_of_block (d6.block w.heap.size (by omega) (by omega))]; exact er
      have e2 : wr.cell? ⟨w.heap.size + 1, 0, none⟩ = some (.bool false) := by rw [World.cell?_of_block (d6.block (w.heap.size + 1) (by omega) (by omega))]; exact e1
      have ef2 : wr.frozen? ⟨w.heap.size + 1, 0, none⟩ = false := by rw [World.frozen?_of_block (d6.block (w.heap.size + 1) (by omega) (by omega))]; exact ef
      have R3 := R.later (HA.out wr hbar2)
      have H5 := Lib.hid d5
      clear er e1 ef R2 d5
      by_cases hdn : d < n
      · have hcell := R3.cell d hdn
        cases hfd : f d with
        | false =>
          rw [hfd] at hcell
          have HF := Lib.hid hfd
          clear hfd
          gi_wp2_with (fail)
          have hc9 : (wr.setCell ⟨w.heap.size + 2, 0, none⟩ (.int .i64 (d + 1))).cell? ⟨w.heap.size + 2, 0, none⟩ = some (.int .i64 ((d + 1 : Nat) : Int)) := World.cell?_setCell_same' _ _ _ (by rw [d3]; rfl)
          go_roundw
          case rel => exact ⟨d + 1, by omega, hdn, hc9, by rw [World.frozen?_setCell]; exact d4, fun y a b => by
            by_cases hy : y < d
            · exact H5.out y a hy
            · rw [show y = d from by omega]; exact HF.out, bar_trans d6 (bar_setCell _ _ _), d7.trans (KeepsOthers.setCell _ _ _)⟩
          case measure => rw [left_eq hc9, left_eq d3]; omega
        | true =>
          rw [hfd] at hcell
          have HN := Lib.hid (findN_some d1 hdn hfd H5.out)
          clear hfd
          by_cases hx : x.val = d
          · have hx2 : ((x.val : Nat) : Int) = (d : Int) := by omega
            have hx3 : ((x.val : Int) == (d : Int)) = true := by rw [hx2]; simp
            have HX := Lib.hid hx
            clear hx hx2
            gi_wp2_with (fail)
            have hc9 : (wr.setCell ⟨w.heap.size + 2, 0, none⟩ (.int .i64 (d + 1))).cell? ⟨w.heap.size + 2, 0, none⟩ = some (.int .i64 ((d + 1 : Nat) : Int)) := World.cell?_setCell_same' _ _ _ (by rw [d3]; rfl)
            exact ⟨d7.trans (KeepsOthers.setCell _ _ _), bar_trans d6 (bar_setCell _ _ _), ⟨d + 1, hdn, by rw [List.map_append, HC2.out, elemsTo_some HN.out, ← HX.out]; rfl, hc9, by rw [World.frozen?_setCell]; exact d4⟩, bar_trans hbar2 (bar_setCell _ _ _)⟩
          · have hx3 : ((x.val : Int) == (d : Int)) = false := by simp; omega
            gi_wp2_with (fail)
            refine ⟨d7.trans (KeepsOthers.setCell _ _ _), fun hp => hx (prefix_next HN.out ?_)⟩
            rw [List.map_append, HC2.out] at hp
            exact hp
      · obtain rfl : d = n := by omega
        have HN := Lib.hid (findN_none H5.out)
        have hxl := x.isLt
        have hx3 : ((x.val : Int) == (d : Int)) = false := by simp; omega
        gi_wp2_with (fail)
        refine ⟨d7.trans (KeepsOthers.setCell _ _ _), fun hp => prefix_none hc1 HN.out (x := x.val) ?_⟩
        rw [List.map_append, HC2.out] at hp
        exact hp
  case stop =>
    rintro D c pre W _ hp hx _
    exact absurd hp hx
  case done =>
    rintro D ys W hD hys ⟨⟨c, hc1, hc2, hc3, hc4⟩, hbar⟩ hK
    have HR := Lib.hid (elems_rest (hc2.symm.trans hys))
    have hw : ∀ k, k < w.heap.size + 5 → k ≠ w.heap.size + 2 → W.heap[k]? = W5.heap[k]? := hbar.block
    have er : W.cell? ⟨w.heap.size, 0, none⟩ = some (.slice (some ⟨rb, 0, none⟩) n n) := by rw [World.cell?_of_block (hw w.heap.size (by omega) (by omega))]; exact cr
    have e1 : W.cell? ⟨w.heap.size + 1, 0, none⟩ = some (.bool false) := by rw [World.cell?_of_block (hw (w.heap.size + 1) (by omega) (by omega))]; exact c1
    have ef : W.frozen? ⟨w.heap.size + 1, 0, none⟩ = false := by rw [World.frozen?_of_block (hw (w.heap.size + 1) (by omega) (by omega))]; exact f1
    have hbl : Below w.heap.size w W := HA.out W hbar
    have hsz : w.heap.size + 5 ≤ W.heap.size := by have := hbar.size; omega
    have hDl : D < W.heap.size := (Array.getElem?_eq_some_iff.1 hK).1
    rw [h5] at hD
    have HK := Lib.hid hK
    clear hK hw hc2 hys c1 f1 cr cC fC cS h5 hb5 hw5 hseq hbar HA
    go_wp2_with (fail)
    refine (all_any _ _).mono ?_
    rintro e w' ⟨rfl, rfl⟩
    go_wp2_with (fail)
    refine (all_any _ _).mono ?_
    rintro e w' ⟨rfl, rfl⟩
    go_wp2_with (fail)
    refine (wpIn_wide (n := m)).1 ?_
    have hc6 : ((W.alloc (.cells #[.pointer (some ⟨p, 0, none⟩)] 24)).alloc (.cells #[.pointer (some ⟨p, 0, none⟩)] 24)).cell? ⟨W.heap.size + 1, 0, none⟩ = some (.pointer (some ⟨p, 0, none⟩)) := by simp [go_sem]
    have hb6 : Below W.heap.size W ((W.alloc (.cells #[.pointer (some ⟨p, 0, none⟩)] 24)).alloc (.cells #[.pointer (some ⟨p, 0, none⟩)] 24)) := ((Below.refl _ _).alloc (Nat.le_refl _) _).alloc (by simp) _
    have hz6 : ((W.alloc (.cells #[.pointer (some ⟨p, 0, none⟩)] 24)).alloc (.cells #[.pointer (some ⟨p, 0, none⟩)] 24)).heap.size = W.heap.size + 2 := by simp
    refine range_break m hm (W.heap.size + 1) 4 5 (some ⟨p, 0, none⟩) f n hn (by decide) (by simp [go_sem]) hc6 (fun W' h i => next_at p wb n f w W' S hT (hbl.trans ((hb6.trans (h.mono (by omega))).mono (by omega))) i) ?_
    intro D2 W7 hD2 hW7 hK2
    rw [hz6] at hD2 hW7
    have hb7 : Below W.heap.size W W7 := hb6.trans (hW7.mono (by omega))
    rw [← hb7.cell (p := ⟨w.heap.size + 2, 0, none⟩) (show w.heap.size + 2 < W.heap.size by omega)] at hc3
    rw [← hb7.cell (p := ⟨w.heap.size, 0, none⟩) (show w.heap.size < W.heap.size by omega)] at er
    rw [← hb7.cell (p := ⟨w.heap.size + 1, 0, none⟩) (show w.heap.size + 1 < W.heap.size by omega)] at e1
    rw [← hb7.frozen (p := ⟨w.heap.size + 1, 0, none⟩) (show w.heap.size + 1 < W.heap.size by omega)] at ef
    have hK1 : W7.heap[D]? = some (.deferred (some [])) := by rw [hb7.block D hDl]; exact HK.out
    have hbe : Below w.heap.size w W7 := hbl.trans (hb7.mono (by omega))
    have R7 := R.later hbe
    have hs7 := hb7.size
    have HK1 := Lib.hid hK1
    have HK2 := Lib.hid hK2
    have n1 : D ≠ w.heap.size + 1 := by omega
    have n2 : D2 ≠ w.heap.size + 1 := by omega
    have n3 : D ≠ D2 := by omega
    clear hK1 hK2 hW7 hb6 hb7 hc6 hz6 HK hc4
    by_cases hcn : c = n
    · subst hcn
      go_wp2_with (fail)
      refine (reflen_any (some ⟨rb, 0, none⟩) 0 0 f W7 (fun k hk => absurd hk (Nat.not_lt_zero _)) (by decide)).mono ?_
      rintro e w' ⟨rfl, rfl⟩
      rw [show ((cnt f 0 0 : Nat) : Int) = 0 from rfl]
      go_wp2_with (fail)
      exact same_end m w W7 D D2 _ rfl hbe e1 ef HK1.out HK2.out n1 n2 n3 (by omega) (by omega) (by omega)
    · go_wp2_with (fail)
      refine (reflen_any (some ⟨rb, c, none⟩) (n - c) (n - c) (fun k => f (c + k)) W7 (fun k hk => ⟨rb, c, rfl, R7.cell (c + k) (by omega)⟩) (by omega)).mono ?_
      rintro e w' ⟨rfl, rfl⟩
      rw [cnt_zero (fun k => f (c + k)) (n - c) (fun k hk => HR.out (c + k) (by omega) (by omega)), show (((0 : Nat) : Nat) : Int) = 0 from rfl]
      go_wp2_with (fail)
      exact same_end m w W7 D D2 _ rfl hbe e1 ef HK1.out HK2.out n1 n2 n3 (by omega) (by omega) (by omega)

theorem same_any (p wb rb n : Nat) (f : Nat → Bool) (w : World) (S : SetAt w p wb n f) (R : RefAt w rb n f) (hT : TabAt 0 Lib.deBruijn64tab w) :
    Calls Tryd.prog 21 #[.pointer (some ⟨p, 0, none⟩), refV rb n] w fun e w' => e = .returned (.bool true) ∧ Below w.heap.size w w' :=
  callsIn_wide.1 (same_in 3 (Nat.le_refl _) p wb rb n f w S R hT)
end Go.Proofs.YtkecmoljaopgbaaDoor
