/-
  calls, the document's: nothing is read as nothing.
-/
import Derived.Test.YtkmjkkeldbocdaaDoorCsRd
namespace Go.Proofs.YtkmjkkeldbocdaaDoor
open Go.RowKit Go
attribute [local go_sem] Oper.semAt_some

theorem numX_none (x : Nat → UInt8) (p : Nat) : numX x 0 p = 0 := by
  have h : numF x 0 p = fun _ => 0 := by
    funext i
    unfold numF
    rw [if_neg (by omega)]
  unfold numX
  rw [h]
  rfl
set_option maxRecDepth 100000 in
set_option maxHeartbeats 8000000 in
theorem rread_nil (a : Option Addr) (c : Nat) (x : Nat → UInt8) (w : World) : Calls Tryd.prog 21 #[.slice a 0 c] w (RrP w 0 x) := by
  have HN0 := Lib.hid (fun W => number_any (w := W) (a := a) (n := 0) (c := c) (x := x) (fun h => absurd h (by decide)) (by decide) 0 (by decide))
  simp only [numX_none] at HN0
  obtain ⟨w2, hw2⟩ : ∃ w2, w2 = (w.alloc (.cells #[.int .i64 0, .int .u64 0, .slice none 0 0] 41)).alloc (.cells #[.int .i64 0, .int .u64 0, .slice none 0 0] 41) := ⟨_, rfl⟩
  have HB2 := Lib.hid (show Below w.heap.size w w2 from by rw [hw2]; exact ((Below.refl _ _).alloc (Nat.le_refl _) _).alloc (by simp) _)
  have HR2 := Lib.hid (show RowAt w2 (w.heap.size + 1) 3 (fun i => (rsA 0 0 none 0 0).getD i undef) from by
    rw [hw2]
    have h5 := RowAt.new (w.alloc (.cells #[.int .i64 0, .int .u64 0, .slice none 0 0] 41)) #[.int .i64 0, .int .u64 0, .slice none 0 0] 41 3 (fun i => (rsA 0 0 none 0 0).getD i undef) (fun i hi => by
      match i, hi with
      | 0, _ | 1, _ | 2, _ => rfl)
    rw [World.size_alloc] at h5
    exact h5)
  have HR0 := Lib.hid (show RowAt w2 w.heap.size 3 (fun i => (rsA 0 0 none 0 0).getD i undef) from by
    rw [hw2]
    exact (RowAt.new w #[.int .i64 0, .int .u64 0, .slice none 0 0] 41 3 (fun i => (rsA 0 0 none 0 0).getD i undef) (fun i hi => by
      match i, hi with
      | 0, _ | 1, _ | 2, _ => rfl)).alloc _)
  have HOKX := Lib.hid (show okX x 0 = false by unfold okX; rw [decide_eq_false (show ¬ 24 ≤ 0 by decide)]; simp)
  have l0 : w2.cell? ⟨w.heap.size + 1, 0, none⟩ = some (.int .i64 0) := HR2.out.cell 0 (by decide)
  have l1 : w2.cell? ⟨w.heap.size + 1, 1, none⟩ = some (.int .u64 0) := HR2.out.cell 1 (by decide)
  have l2 : w2.cell? ⟨w.heap.size + 1, 2, none⟩ = some (.slice none 0 0) := HR2.out.cell 2 (by decide)
  have hth : w2.there w.heap.size 0 3 := HR0.out.there 0 3 (by decide)
  have HO := Lib.hid (Only.setCells (S := fun k => k = w.heap.size) (b := w.heap.size) rfl [Value.int .i64 0, .int .u64 0, .slice none 0 0] 0 w2)
  have HF := Lib.hid (HO.out.below HB2.out HB2.out.size (fun k hk => by omega))
  have HRF := Lib.hid ((RowAt.setCells [Value.int .i64 0, .int .u64 0, .slice none 0 0] 0 w2 _ HR0.out).ext (g := fun i => (rsA 0 0 none 0 0).getD i undef) (fun i hi => by
    match i, hi with
    | 0, _ | 1, _ | 2, _ => rfl))
  go_enter Tryd.func21, Tryd.ntmps21
  go_wp2_with (fail)
  rw [← hw2]
  refine (HN0.out _).mono ?_
  rintro e w' ⟨rfl, rfl⟩
  clear hw2
  go_wp2_with (first | (refine wpList_store_mid rfl 41 _ _ rfl w.heap.size 0 #[.int .i64 0, .int .u64 0, .slice none 0 0] rfl rfl hth sizeRes (by simp [Value.oneCell']) ?_) | fail)
  generalize w2.setCells w.heap.size 0 [Value.int .i64 0, .int .u64 0, .slice none 0 0] = WF at *
  have d0 : WF.cell? ⟨w.heap.size, 0, none⟩ = some (.int .i64 0) := HRF.out.cell 0 (by decide)
  have d1 : WF.cell? ⟨w.heap.size, 1, none⟩ = some (.int .u64 0) := HRF.out.cell 1 (by decide)
  have d2 : WF.cell? ⟨w.heap.size, 2, none⟩ = some (.slice none 0 0) := HRF.out.cell 2 (by decide)
  refine bodyPost_ret (v := .tuple #[rsV 0 0 none 0 0, .int .i64 5]) ?_ rfl (.inr ⟨HOKX.out, rfl, HF.out⟩)
  simp [results, Tryd.f21, go_sem, d0, d1, d2]
set_option maxRecDepth 100000 in
set_option maxHeartbeats 8000000 in
theorem read_nil (a : Option Addr) (c : Nat) (x : Nat → UInt8) (w : World) : Calls Tryd.prog 19 #[.slice a 0 c] w (RdP w 0 x) := by
  have HN0 := Lib.hid (fun W => number_any (w := W) (a := a) (n := 0) (c := c) (x := x) (fun h => absurd h (by decide)) (by decide) 0 (by decide))
  simp only [numX_none] at HN0
  obtain ⟨w2, hw2⟩ : ∃ w2, w2 = w.alloc (.cells #[.int .u8 0, .int .i64 0, .int .i64 0, .int .i64 0, .int .i64 0, .int .i64 0, .int .i64 0, .int .u8 0, .int .u8 0, .int .u8 0, .int .u64 0, .slice none 0 0] 29) := ⟨_, rfl⟩
  have HB2 := Lib.hid (show Below w.heap.size w w2 from by rw [hw2]; exact (Below.refl _ _).alloc (Nat.le_refl _) _)
  have HR2 := Lib.hid (show RowAt w2 w.heap.size 12 (cellC ((q0 0).list none 0 0)) from by rw [hw2]; exact row_list w (q0 0) none 0 0 _)
  have HLI := Lib.hid (fun W => list_any (q0 0) (Nat.zero_le _) (Nat.zero_le _) (Nat.zero_le _) none 0 0 W)
  have HOKX := Lib.hid (show okC x 0 = false by unfold okC; rw [numX_none]; rfl)
  obtain ⟨R, hR⟩ : ∃ R, RdP w 0 x = R := ⟨_, rfl⟩
  rw [hR]
  have HRP := Lib.hid hR
  clear hR
  go_enter Tryd.func19, Tryd.ntmps19
  go_wp2_with (fail)
  rw [← hw2]
  refine (HN0.out _).mono ?_
  rintro e w' ⟨rfl, rfl⟩
  clear hw2
  go_wp2_with (fail)
  refine (HLI.out _).mono ?_
  rintro e w3 ⟨vl, rfl, _, hb3⟩
  simp only [show (q0 0).kind = 0 from rfl, show okK 0 = false from rfl, show hasK 0 = false from rfl]
  have HB3 := Lib.hid (HB2.out.trans (hb3.mono HB2.out.size))
  have HR3 := Lib.hid (HR2.out.later hb3)
  clear hb3 HLI HN0 HR2
  have HE := Lib.hid (ErrAt.mk (w := w) HR3.out HB3.out)
  have hth : w3.there w.heap.size 0 zC.size := HR3.out.there 0 12 (by decide)
  have hsz := sizeZ
  have hoz := oneZ
  go_wp2_with (first | (refine wpList_store_mid rfl 29 _ _ rfl w.heap.size 0 zC rfl rfl hth hsz hoz ?_) | fail)
  have HE2 := Lib.hid HE.out.lay
  refine bodyPost_ret (v := .tuple #[.agg ((q0 0).cells none 0 0), .int .i64 5]) ?_ rfl (by rw [← HRP.out]; exact .inr ⟨HOKX.out, rfl, HE2.out.bel⟩)
  exact results_cs rfl rfl rfl (load_call HE2.out.row rfl)
end Go.Proofs.YtkmjkkeldbocdaaDoor
