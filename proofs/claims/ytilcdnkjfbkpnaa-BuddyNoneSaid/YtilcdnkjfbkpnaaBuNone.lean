/-
  The walk of BuddyNone: it returns true, and below the old heap nothing has turned.
-/
import Derived.Test.YtilcdnkjfbkpnaaBuRange
import Derived.Test.YtilcdnkjfbkpnaaBuOps
namespace Go.Proofs.Ytilcdnkjfbkpnaa
open Go.RowKit Go.Shelf Go
attribute [local go_sem] Oper.semAt_some

/-- What lies while the law goes on. -/
structure NnAt (B : Nat) (o : Op6) (w W : World) : Prop where
  bel : Below B w W
  box : RowAt W B 4 (opV o)
  res : RowAt W (B + 1) 1 (fun _ => .bool false)
  zer : RowAt W (B + 2) 13 zeroN
  lst : RowAt W (B + 3) 2 (fun i => if i = 0 then .pointer none else .pointer (some ⟨B + 2, 0, none⟩))
theorem NnAt.later {B : Nat} {o : Op6} {w W W' : World} (N : NnAt B o w W) (h : Below W.heap.size W W') (hB : B ≤ W.heap.size) : NnAt B o w W' :=
  ⟨N.bel.trans (h.mono hB), N.box.later h, N.res.later h, N.zer.later h, N.lst.later h⟩
theorem NnAt.le {B : Nat} {o : Op6} {w W : World} (N : NnAt B o w W) : B + 4 ≤ W.heap.size := by
  have := N.lst.lt
  omega
theorem NnAt.next {B : Nat} {o : Op6} {w W W' : World} (N : NnAt B o w W) (h : Below W.heap.size W W') : NnAt B o w W' := N.later h (by have := N.le; omega)
set_option maxRecDepth 100000 in
set_option maxHeartbeats 8000000 in
theorem lawNone_in (m : Nat) (hm : 3 ≤ m) (kind at1 order : Int) (high : Bool) (w : World) :
    CallsIn Fence.wide m Try.prog 4 #[.agg #[.int .i64 kind, .int .i64 at1, .int .i64 order, .bool high]] w fun e w' => e = .returned (.bool true) ∧ Below w.heap.size w w' := by
  have h1 : 1 ≤ m := by omega
  have hnil := blocks_nil
  refine callsIn_of_wp_marks Try.func4 rfl trivial ?_ rfl
  simp only [Try.ntmps4, List.size_toArray, List.length_cons, List.length_nil, Nat.reduceAdd, Nat.reduceSub, Array.replicate_succ, Array.replicate_zero, List.push_toArray, List.append_toArray, List.nil_append, List.cons_append]
  gi_wp2_with (fail)
  obtain ⟨W0, hW0⟩ : ∃ W0, ((((w.alloc (.cells #[.int .i64 kind, .int .i64 at1, .int .i64 order, .bool high] 32)).alloc (.cells #[.bool false] 4)).alloc (.cells #[Value.int IntKind.i64 0, Value.map none, Value.map none, Value.map none, Value.map none, Value.map none, Value.map none, Value.map none, Value.map none, Value.map none, Value.map none, Value.map none, Value.map none] 49)).alloc (.cells #[Value.pointer none, Value.pointer (some ⟨w.heap.size + 1 + 1, 0, none⟩)] 23)) = W0 := ⟨_, rfl⟩
  have HN0 := Lib.hid (show NnAt w.heap.size ⟨kind, at1, order, high⟩ w W0 by
    rw [← hW0]
    refine ⟨((((Below.refl _ w).alloc (Nat.le_refl _) _).alloc (by simp) _).alloc (by simp; omega) _).alloc (by simp; omega) _, ?_, ?_, ?_, ?_⟩
    · exact (((RowAt.new w _ _ 4 _ (fun i hi => by
        rcases (show i = 0 ∨ i = 1 ∨ i = 2 ∨ i = 3 by omega) with rfl | rfl | rfl | rfl <;> rfl)).alloc _).alloc _).alloc _
    · have h := ((RowAt.new (w.alloc (.cells #[.int .i64 kind, .int .i64 at1, .int .i64 order, .bool high] 32)) #[.bool false] 4 1 (fun _ => .bool false) (fun i hi => by
        obtain rfl : i = 0 := by omega
        rfl)).alloc (.cells #[Value.int IntKind.i64 0, Value.map none, Value.map none, Value.map none, Value.map none, Value.map none, Value.map none, Value.map none, Value.map none, Value.map none, Value.map none, Value.map none, Value.map none] 49)).alloc (.cells #[Value.pointer none, Value.pointer (some ⟨w.heap.size + 1 + 1, 0, none⟩)] 23)
      rw [show (w.alloc (.cells #[.int .i64 kind, .int .i64 at1, .int .i64 order, .bool high] 32)).heap.size = w.heap.size + 1 by simp] at h
      exact h
    · have h := (RowAt.new ((w.alloc (.cells #[.int .i64 kind, .int .i64 at1, .int .i64 order, .bool high] 32)).alloc (.cells #[.bool false] 4)) #[Value.int IntKind.i64 0, Value.map none, Value.map none, Value.map none, Value.map none, Value.map none, Value.map none, Value.map none, Value.map none, Value.map none, Value.map none, Value.map none, Value.map none] 49 13 zeroN (fun i hi => by
        rcases (show i = 0 ∨ i = 1 ∨ i = 2 ∨ i = 3 ∨ i = 4 ∨ i = 5 ∨ i = 6 ∨ i = 7 ∨ i = 8 ∨ i = 9 ∨ i = 10 ∨ i = 11 ∨ i = 12 by omega) with rfl | rfl | rfl | rfl | rfl | rfl | rfl | rfl | rfl | rfl | rfl | rfl | rfl <;> rfl)).alloc (.cells #[Value.pointer none, Value.pointer (some ⟨w.heap.size + 1 + 1, 0, none⟩)] 23)
      rw [show ((w.alloc (.cells #[.int .i64 kind, .int .i64 at1, .int .i64 order, .bool high] 32)).alloc (.cells #[.bool false] 4)).heap.size = w.heap.size + 2 by simp] at h
      exact h
    · have h := RowAt.new (((w.alloc (.cells #[.int .i64 kind, .int .i64 at1, .int .i64 order, .bool high] 32)).alloc (.cells #[.bool false] 4)).alloc (.cells #[Value.int IntKind.i64 0, Value.map none, Value.map none, Value.map none, Value.map none, Value.map none, Value.map none, Value.map none, Value.map none, Value.map none, Value.map none, Value.map none, Value.map none] 49)) #[Value.pointer none, Value.pointer (some ⟨w.heap.size + 1 + 1, 0, none⟩)] 23 2 (fun i => if i = 0 then .pointer none else .pointer (some ⟨w.heap.size + 2, 0, none⟩)) (fun i hi => by
        rcases (show i = 0 ∨ i = 1 by omega) with rfl | rfl <;> rfl)
      rw [show (((w.alloc (.cells #[.int .i64 kind, .int .i64 at1, .int .i64 order, .bool high] 32)).alloc (.cells #[.bool false] 4)).alloc (.cells #[Value.int IntKind.i64 0, Value.map none, Value.map none, Value.map none, Value.map none, Value.map none, Value.map none, Value.map none, Value.map none, Value.map none, Value.map none, Value.map none, Value.map none] 49)).heap.size = w.heap.size + 3 by simp] at h
      exact h)
  rw [hW0]
  clear hW0
  rw [show w.heap.size + 1 + 1 + 1 = w.heap.size + 3 from rfl, show w.heap.size + 1 + 1 = w.heap.size + 2 from rfl]
  generalize hBB : w.heap.size = B at *
  have HBB := Lib.hid hBB
  clear hBB
  refine wpIn_loop_rounds 3 ?_
  have cl : W0.cell? ⟨B + 3, 0, none⟩ = some (.pointer none) := HN0.out.lst.cell 0 (by decide)
  have x1 : W0.cell? ⟨B, 1, none⟩ = some (.int .i64 at1) := HN0.out.box.cell 1 (by decide)
  have x2 : W0.cell? ⟨B, 2, none⟩ = some (.int .i64 order) := HN0.out.box.cell 2 (by decide)
  have x3 : W0.cell? ⟨B, 3, none⟩ = some (.bool high) := HN0.out.box.cell 3 (by decide)
  have HG0 := Lib.hid (show BGone W0 none from .inl rfl)
  rw [roundsIn_succ]
  gi_wp2_with (fail)
  refine ⟨trivial, (callsIn_wide.2 (take_gone HG0.out order high)).mono ?_⟩
  rintro e w' ⟨rfl, rfl⟩
  gi_wp2_with (fail)
  refine ⟨trivial, (callsIn_wide.2 (taken_gone HG0.out at1)).mono ?_⟩
  rintro e w' ⟨rfl, rfl⟩
  gi_wp2_with (fail)
  clear cl x1 x2 x3
  refine ⟨trivial, (callsIn_wide.2 (blocks_any _ _)).mono ?_⟩
  rintro e w' ⟨rfl, rfl⟩
  gi_wp2_with (fail)
  refine ⟨trivial, (callsIn_wide.2 (blocks_any _ _)).mono ?_⟩
  rintro e w' ⟨rfl, rfl⟩
  gi_wp2_with (fail)
  have ha : Below W0.heap.size W0 ((W0.alloc (.cells #[.pointer none] 23)).alloc (.cells #[.pointer none] 23)) := ((Below.refl _ _).alloc (Nat.le_refl _) _).alloc (by simp) _
  have hcb : ((W0.alloc (.cells #[.pointer none] 23)).alloc (.cells #[.pointer none] 23)).cell? ⟨W0.heap.size + 1, 0, none⟩ = some (.pointer none) := by simp [go_sem]
  have HA0 := Lib.hid ha
  refine range_gone m hm (W0.heap.size + 1) none (by simp [go_sem]) hcb (HG0.out.later ha) ?_
  intro D0 V0 hD hb hK
  have hb2 : Below W0.heap.size W0 V0 := HA0.out.trans (hb.mono HA0.out.size)
  have HM0 := Lib.hid (HN0.out.next hb2)
  have HH0 := Lib.hid (HG0.out.later hb2)
  have HK0 := Lib.hid hK
  have HD0 := Lib.hid (show W0.heap.size ≤ D0 from Nat.le_trans HA0.out.size hD)
  clear ha hcb hD hb hK hb2 HA0
  have x1 : V0.cell? ⟨B, 1, none⟩ = some (.int .i64 at1) := HM0.out.box.cell 1 (by decide)
  have x2 : V0.cell? ⟨B, 2, none⟩ = some (.int .i64 order) := HM0.out.box.cell 2 (by decide)
  gi_wp2_with (fail)
  refine ⟨trivial, (callsIn_wide.2 (give_gone HH0.out at1 order)).mono ?_⟩
  rintro e w' ⟨rfl, rfl⟩
  clear x1 x2
  gi_wp2_with (fail)
  refine ⟨trivial, (callsIn_wide.2 (frames_gone HH0.out)).mono ?_⟩
  rintro e w' ⟨rfl, rfl⟩
  gi_wp2_with (fail)
  refine ⟨trivial, (callsIn_wide.2 (free_gone HH0.out)).mono ?_⟩
  rintro e w' ⟨rfl, rfl⟩
  gi_wp2_with (fail)
  refine ⟨trivial, (callsIn_wide.2 (most_gone HH0.out)).mono ?_⟩
  rintro e W1 ⟨rfl, hb⟩
  have HN1 := Lib.hid (HM0.out.next hb)
  have HHH0 := Lib.hid (HH0.out.later hb)
  have HP01 := Lib.hid (show W1.heap[D0]? = some (.deferred (some [])) by rw [hb.block D0 (Array.getElem?_eq_some_iff.1 HK0.out).1]; exact HK0.out)
  clear hb
  gi_wp2_with (fail)
  refine ⟨trivial, (callsIn_wide.2 (copy_gone HHH0.out)).mono ?_⟩
  rintro e w' ⟨rfl, rfl⟩
  gi_wp2_with (fail)
  have cl : W1.cell? ⟨B + 3, 1, none⟩ = some (.pointer (some ⟨B + 2, 0, none⟩)) := HN1.out.lst.cell 1 (by decide)
  have x1 : W1.cell? ⟨B, 1, none⟩ = some (.int .i64 at1) := HN1.out.box.cell 1 (by decide)
  have x2 : W1.cell? ⟨B, 2, none⟩ = some (.int .i64 order) := HN1.out.box.cell 2 (by decide)
  have x3 : W1.cell? ⟨B, 3, none⟩ = some (.bool high) := HN1.out.box.cell 3 (by decide)
  have HG1 := Lib.hid (show BGone W1 (some ⟨B + 2, 0, none⟩) from .inr ⟨B + 2, rfl, HN1.out.zer⟩)
  rw [roundsIn_succ]
  gi_wp2_with (fail)
  refine ⟨trivial, (callsIn_wide.2 (take_gone HG1.out order high)).mono ?_⟩
  rintro e w' ⟨rfl, rfl⟩
  gi_wp2_with (fail)
  refine ⟨trivial, (callsIn_wide.2 (taken_gone HG1.out at1)).mono ?_⟩
  rintro e w' ⟨rfl, rfl⟩
  gi_wp2_with (fail)
  clear cl x1 x2 x3
  refine ⟨trivial, (callsIn_wide.2 (blocks_any _ _)).mono ?_⟩
  rintro e w' ⟨rfl, rfl⟩
  gi_wp2_with (fail)
  refine ⟨trivial, (callsIn_wide.2 (blocks_any _ _)).mono ?_⟩
  rintro e w' ⟨rfl, rfl⟩
  gi_wp2_with (fail)
  have ha : Below W1.heap.size W1 ((W1.alloc (.cells #[.pointer (some ⟨B + 2, 0, none⟩)] 23)).alloc (.cells #[.pointer (some ⟨B + 2, 0, none⟩)] 23)) := ((Below.refl _ _).alloc (Nat.le_refl _) _).alloc (by simp) _
  have hcb : ((W1.alloc (.cells #[.pointer (some ⟨B + 2, 0, none⟩)] 23)).alloc (.cells #[.pointer (some ⟨B + 2, 0, none⟩)] 23)).cell? ⟨W1.heap.size + 1, 0, none⟩ = some (.pointer (some ⟨B + 2, 0, none⟩)) := by simp [go_sem]
  have HA1 := Lib.hid ha
  refine range_gone m hm (W1.heap.size + 1) (some ⟨B + 2, 0, none⟩) (by simp [go_sem]) hcb (HG1.out.later ha) ?_
  intro D1 V1 hD hb hK
  have hb2 : Below W1.heap.size W1 V1 := HA1.out.trans (hb.mono HA1.out.size)
  have HM1 := Lib.hid (HN1.out.next hb2)
  have HH1 := Lib.hid (HG1.out.later hb2)
  have HK1 := Lib.hid hK
  have HD1 := Lib.hid (show W1.heap.size ≤ D1 from Nat.le_trans HA1.out.size hD)
  have HQ01 := Lib.hid (show V1.heap[D0]? = some (.deferred (some [])) by rw [hb2.block D0 (Array.getElem?_eq_some_iff.1 HP01.out).1]; exact HP01.out)
  clear ha hcb hD hb hK hb2 HA1
  have x1 : V1.cell? ⟨B, 1, none⟩ = some (.int .i64 at1) := HM1.out.box.cell 1 (by decide)
  have x2 : V1.cell? ⟨B, 2, none⟩ = some (.int .i64 order) := HM1.out.box.cell 2 (by decide)
  gi_wp2_with (fail)
  refine ⟨trivial, (callsIn_wide.2 (give_gone HH1.out at1 order)).mono ?_⟩
  rintro e w' ⟨rfl, rfl⟩
  clear x1 x2
  gi_wp2_with (fail)
  refine ⟨trivial, (callsIn_wide.2 (frames_gone HH1.out)).mono ?_⟩
  rintro e w' ⟨rfl, rfl⟩
  gi_wp2_with (fail)
  refine ⟨trivial, (callsIn_wide.2 (free_gone HH1.out)).mono ?_⟩
  rintro e w' ⟨rfl, rfl⟩
  gi_wp2_with (fail)
  refine ⟨trivial, (callsIn_wide.2 (most_gone HH1.out)).mono ?_⟩
  rintro e W2 ⟨rfl, hb⟩
  have HN2 := Lib.hid (HM1.out.next hb)
  have HHH1 := Lib.hid (HH1.out.later hb)
  have HP12 := Lib.hid (show W2.heap[D1]? = some (.deferred (some [])) by rw [hb.block D1 (Array.getElem?_eq_some_iff.1 HK1.out).1]; exact HK1.out)
  have HP02 := Lib.hid (show W2.heap[D0]? = some (.deferred (some [])) by rw [hb.block D0 (Array.getElem?_eq_some_iff.1 HQ01.out).1]; exact HQ01.out)
  have HE01 := Lib.hid (show D1 ≠ D0 from fun e => by
    have h1 := (Array.getElem?_eq_some_iff.1 HP01.out).1
    have h2 := HD1.out
    omega)
  clear hb
  gi_wp2_with (fail)
  refine ⟨trivial, (callsIn_wide.2 (copy_gone HHH1.out)).mono ?_⟩
  rintro e w' ⟨rfl, rfl⟩
  gi_wp2_with (fail)
  rw [roundsIn_succ]
  gi_wp2_with (fail)
  refine ⟨trivial, (callsIn_wide.2 (known_any _)).mono ?_⟩
  rintro e V9 ⟨rfl, hb⟩
  have HN9 := Lib.hid (HN2.out.next hb)
  have HQ0 := Lib.hid (show V9.heap[D0]? = some (.deferred (some [])) by rw [hb.block D0 (Array.getElem?_eq_some_iff.1 HP02.out).1]; exact HP02.out)
  have HQ1 := Lib.hid (show V9.heap[D1]? = some (.deferred (some [])) by rw [hb.block D1 (Array.getElem?_eq_some_iff.1 HP12.out).1]; exact HP12.out)
  clear hb
  have c0 : V9.cell? ⟨B + 1, 0, none⟩ = some (.bool false) := HN9.out.res.cell 0 (by decide)
  have f0 := HN9.out.res.frozen 0
  gi_wp2_with (fail)
  have n0 : D0 ≠ B + 1 := by have := HD0.out; have := HN0.out.le; omega
  have n1 : D1 ≠ B + 1 := by have := HD1.out; have := HN1.out.le; omega
  have ho := Only.setCell (S := fun k => k = B + 1) V9 ⟨B + 1, 0, none⟩ rfl (.bool true)
  have hc : (V9.setCell ⟨B + 1, 0, none⟩ (.bool true)).cell? ⟨B + 1, 0, none⟩ = some (.bool true) := World.cell?_setCell_same' _ _ _ (by rw [c0]; rfl)
  refine leaves_many [D1, D0] _ ?_ (fun D hD => ?_) (fun W' ho2 hs2 => ?_)
  · simp only [List.nodup_cons, List.mem_singleton, List.not_mem_nil, not_false_eq_true, List.nodup_nil, and_true]
    exact HE01.out
  · rw [ho.block D (by
      rcases List.mem_cons.1 hD with rfl | hD
      · exact (Array.getElem?_eq_some_iff.1 HQ1.out).1
      · rw [List.mem_singleton] at hD
        subst hD
        exact (Array.getElem?_eq_some_iff.1 HQ0.out).1) (by
      rcases List.mem_cons.1 hD with rfl | hD
      · exact n1
      · rw [List.mem_singleton] at hD
        subst hD
        exact n0)]
    rcases List.mem_cons.1 hD with rfl | hD
    · exact HQ1.out
    · rw [List.mem_singleton] at hD
      subst hD
      exact HQ0.out
  · have hc2 := ho2.cell (b := B + 1) (o := 0) (fun h => by
      rcases List.mem_cons.1 h with h | h
      · exact n1 h.symm
      · rw [List.mem_singleton] at h
        exact n0 h.symm) hc
    refine ⟨.bool true, ?_, rfl, ?_⟩
    · simp [results, Try.f4, go_sem, hc2]
    · rw [HBB.out]
      have hle := HN9.out.le
      have hb9 : Below B w (V9.setCell ⟨B + 1, 0, none⟩ (.bool true)) := HN9.out.bel.setCell (p := ⟨B + 1, 0, none⟩) (Nat.le_succ _) _
      refine ho2.below hb9 (by simp [World.setCell]; omega) (fun k hk => ?_)
      rcases List.mem_cons.1 hk with h | h
      · have := HD1.out; have := HN1.out.le; omega
      · rw [List.mem_singleton] at h
        have := HD0.out; have := HN0.out.le; omega
theorem lawNone_any (kind at1 order : Int) (high : Bool) (w : World) :
    Calls Try.prog 4 #[.agg #[.int .i64 kind, .int .i64 at1, .int .i64 order, .bool high]] w fun e w' => e = .returned (.bool true) ∧ Below w.heap.size w w' :=
  callsIn_wide.1 (lawNone_in 3 (Nat.le_refl _) kind at1 order high w)
end Go.Proofs.Ytilcdnkjfbkpnaa
