/-
  depot: Drain of the landed depot.
-/
import Derived.Test.YtagnipkannogoaaDpAll
import Derived.Test.YtagnipkannogoaaCopyO
import Derived.BigRegion
import Derived.Deep.DeepCutAuto
import Derived.Deep.CutBlock
namespace Go.Proofs.Ytagnipkannogoaa
open Go.RowKit Go
theorem make_objsB (N : Nat) (h1 : N ≤ 100000) : ∀ W, (Instr.makeSlice 30 (.int .i64 N) (.int .i64 N)).run Try.prog W = .ok (.slice (some ⟨W.heap.size, 0, none⟩) N N) (W.alloc (.cells (madeCells #[Value.int .i64 0, .int .i64 0] (N * 2)) TO)) := by
  obtain ⟨i0, hi, hz0, hz1, hz2⟩ := info_parts infoObj
  intro W
  have h := run_make (P := Try.prog) W 30 38 i0 _ Try.underlying30 hi hz0 .i64 .i64 (N : Int) (N : Int) (by omega) (by omega) (by rw [hz2]; omega) (by omega)
  rw [Int.toNat_natCast, hz1] at h
  exact h
section
variable {w w' w1 : World} {D D' : DP} {N : Nat} {F F' : List Obs} {L Q Q' m : Obs} {v : Value}
/-- Two lists have been made. -/
def Made2 (w W : World) (u v : Value) (k m : Nat) : Prop := ∃ g1 g2, u = .slice (some ⟨g1, 0, none⟩) k k ∧ v = .slice (some ⟨g2, 0, none⟩) m m ∧ g1 ≠ g2 ∧ Below w.heap.size w W ∧ W.ownsRow w.heap.size TO 2 u k (recV encO (zO k)) ∧ W.ownsRow w.heap.size TO 2 v m (recV encO (zO m))
theorem owns_zO (W : World) (base k : Nat) (hb : base ≤ W.heap.size) (hk : k ≤ 100000) : (W.alloc (.cells (madeCells #[Value.int .i64 0, .int .i64 0] (k * 2)) TO)).ownsRow base TO 2 (.slice (some ⟨W.heap.size, 0, none⟩) k k) k (recV encO (zO k)) := by
  refine ⟨by rw [recV_len encO_len, zO_len], .inr ⟨W.heap.size, k, _, rfl, hb, heap_alloc_new W _, Nat.le_refl _, by unfold maxLen; omega, by simp [size_madeCells], ?_⟩⟩
  rw [made_objs, List.take_of_length_le (by rw [recV_len encO_len, zO_len]; exact Nat.le_refl _)]
theorem made2_1 (w : World) (k r : Nat) (hk : k ≤ 100000) (hr : r ≤ 100000) : Made2 w ((w.alloc (.cells (madeCells #[Value.int .i64 0, .int .i64 0] (k * 2)) TO)).alloc (.cells (madeCells #[Value.int .i64 0, .int .i64 0] (r * 2)) TO)).drew (.slice (some ⟨w.heap.size, 0, none⟩) k k) (.slice (some ⟨w.heap.size + 1, 0, none⟩) r r) k r := by
  have hs1 : (w.alloc (.cells (madeCells #[Value.int .i64 0, .int .i64 0] (k * 2)) TO)).heap.size = w.heap.size + 1 := by simp
  have o1 := owns_zO w w.heap.size k (Nat.le_refl _) hk
  have o2 := owns_zO (w.alloc (.cells (madeCells #[Value.int .i64 0, .int .i64 0] (k * 2)) TO)) w.heap.size r (by rw [hs1]; omega) hr
  rw [hs1] at o2
  refine ⟨w.heap.size, w.heap.size + 1, rfl, rfl, by omega, (((Below.refl _ w).alloc (Nat.le_refl _) _).alloc (by simp) _).drew, ?_, ?_⟩
  · exact owns_later o1 ((Below.refl _ _).alloc (Nat.le_refl _) _).drew
  · exact owns_later o2 (Below.refl _ _).drew
theorem made2_2 (w : World) (k r : Nat) (hk : k ≤ 100000) (hr : r ≤ 100000) : Made2 w ((w.alloc (.cells (madeCells #[Value.int .i64 0, .int .i64 0] (r * 2)) TO)).alloc (.cells (madeCells #[Value.int .i64 0, .int .i64 0] (k * 2)) TO)).drew (.slice (some ⟨w.heap.size + 1, 0, none⟩) k k) (.slice (some ⟨w.heap.size, 0, none⟩) r r) k r := by
  have hs1 : (w.alloc (.cells (madeCells #[Value.int .i64 0, .int .i64 0] (r * 2)) TO)).heap.size = w.heap.size + 1 := by simp
  have o1 := owns_zO w w.heap.size r (Nat.le_refl _) hr
  have o2 := owns_zO (w.alloc (.cells (madeCells #[Value.int .i64 0, .int .i64 0] (r * 2)) TO)) w.heap.size k (by rw [hs1]; omega) hk
  rw [hs1] at o2
  refine ⟨w.heap.size + 1, w.heap.size, rfl, rfl, by omega, (((Below.refl _ w).alloc (Nat.le_refl _) _).alloc (by simp) _).drew, ?_, ?_⟩
  · exact owns_later o2 (Below.refl _ _).drew
  · exact owns_later o1 ((Below.refl _ _).alloc (Nat.le_refl _) _).drew
def DrainP (w : World) (D : DP) (N : Nat) (L Q : Obs) (k : Nat) (e : Ending) (w' : World) : Prop :=
  ∃ v v2, e = .returned v ∧ TTurn w (thD D N L Q) w' (thD ⟨D.p, D.l, v2⟩ N L (Q.drop k)) ∧
    w'.ownsRow 0 TO 2 v (Q.take k).length (recV encO (Q.take k)) ∧ ∀ j, v.ownBlock = some j → w.heap.size ≤ j ∧ v2.ownBlock ≠ some j
theorem dpK_le {n : Int} : dpK n Q ≤ Q.length := by unfold dpK; omega
theorem dpK_eq {n : Int} : min (max n 0) (Q.length : Int) = (dpK n Q : Int) := by unfold dpK; omega
set_option maxRecDepth 100000 in
set_option maxHeartbeats 8000000 in
theorem drain_any (h : DAt w D N L Q) (hQ : Q.length ≤ 50000) (n : Int) : Calls Try.prog 17 #[.pointer (some ⟨D.p, 0, none⟩), .int .i64 n] w (DrainP w D N L Q (dpK n Q)) := by
  have HD := Lib.hid h
  have HLQ := Lib.hid hQ
  have hk := dpK_eq (Q := Q) (n := n)
  have HKL := Lib.hid (dpK_le (Q := Q) (n := n))
  obtain ⟨k, hkk⟩ : ∃ k, dpK n Q = k := ⟨_, rfl⟩
  rw [hkk] at hk HKL ⊢
  clear hkk
  have c2 := h.c2
  obtain ⟨oa, oc, ho⟩ := h.os
  clear h hQ
  obtain ⟨p, l, o⟩ := D
  dsimp only at c2 ho ⊢
  subst ho
  obtain ⟨q, hlq⟩ : ∃ q, Q.length = q := ⟨_, rfl⟩
  rw [hlq] at c2 hk HKL HLQ
  have M1 := make_objsB k (by have := HLQ.out; have := HKL.out; omega)
  obtain ⟨r, hr⟩ : ∃ r, k + r = q := ⟨q - k, by have := HKL.out; omega⟩
  have HR := Lib.hid hr
  have M2 := make_objsB r (by have := HLQ.out; omega)
  have hwr : wrap64 ((q : Int) - (k : Int)) = (r : Int) := by
    rw [IntWalk.wrap64_in _ ⟨by have := HLQ.out; omega, by have := HLQ.out; omega⟩]; omega
  have ca1 := HD.out.later ((Below.refl w.heap.size w).alloc (Nat.le_refl _) (.cells (madeCells #[Value.int .i64 0, .int .i64 0] (k * 2)) TO))
  have ca2 := HD.out.later ((Below.refl w.heap.size w).alloc (Nat.le_refl _) (.cells (madeCells #[Value.int .i64 0, .int .i64 0] (r * 2)) TO))
  replace ca1 := ca1.c2
  replace ca2 := ca2.c2
  dsimp only at ca1 ca2
  rw [hlq] at ca1 ca2
  clear hr
  go_enter Try.func17, Try.ntmps17
  go_upto_region 3 with (fail)
  go_cut [1] (fun s1 wc => s1 = .int .i64 k ∧ wc = w)
  case first =>
    go_wp2_with (fail)
    all_goals
      go_meet
      exact ⟨by simp [← hk]; omega, rfl⟩
  case rest =>
    obtain ⟨rfl, hwc⟩ := hcut
    have hwc := hwc.symm
    subst hwc
    go_upto_region 4 with (fail)
    go_cut [5, 6] (fun s5 s6 wc => Made2 w wc s5 s6 k r)
    case first =>
      go_region
      all_goals
        go_wp2_with (fail)
        go_meet
        first | exact made2_1 w k r (by have := HLQ.out; have := HR.out; omega) (by have := HLQ.out; have := HR.out; omega) | exact made2_2 w k r (by have := HLQ.out; have := HR.out; omega) (by have := HLQ.out; have := HR.out; omega)
    case rest =>
      obtain ⟨g1, g2, rfl, rfl, hne, hb, ho1, ho2⟩ := hcut
      have HNE := Lib.hid hne
      have HB := Lib.hid hb
      have HO1 := Lib.hid ho1
      have HO2 := Lib.hid ho2
      have d2 : wc.cell? ⟨p, 2, none⟩ = _ := (HD.out.later hb).c2
      dsimp only at d2
      rw [hlq] at d2
      have HS := Lib.hid (SrcO.of_owns (HD.out.later hb).ot)
      dsimp only at HS
      have HK1 := Lib.hid (show k ≤ Q.length by rw [hlq]; exact HKL.out)
      have hcap := owns_cap HD.out.ot
      have HCAP := Lib.hid hcap
      clear hb ho1 ho2 hne ca1 ca2 M1 M2 c2 hcap hk
      rw [hlq] at HS HCAP
      have HLQ2 := Lib.hid hlq
      obtain ⟨vd, hvd⟩ : ∃ vd, Value.slice (if oc = k then oa else oa.map fun x => x.add (k * 2)) (q - k) (oc - k) = vd := ⟨_, rfl⟩
      have S2 := Lib.hid (show ∀ V : World, (Instr.sliceAt 30 (.slice oa q oc) (some (.int .i64 k)) none none).run Try.prog V = .ok vd V from fun V => hvd ▸ run_sub_fromN (P := Try.prog) (t := 30) (e := TO) (s := 2) Try.underlying30 (fun _ => by kernel_rfl) _ _ _ k HKL.out V)
      have HVD := Lib.hid hvd
      clear hvd hlq
      have hFX : ∀ W1, W1.ownsRow w.heap.size TO 2 (.slice (some ⟨g1, 0, none⟩) k k) k (recV encO (Q.take k)) → Only (fun j => (Value.slice (some ⟨g1, 0, none⟩) k k).ownBlock = some j) wc W1 →
          Hid (Below w.heap.size w W1 ∧ W1.cell? ⟨p, 2, none⟩ = some (.slice oa q oc) ∧ W1.ownsRow w.heap.size TO 2 (.slice (some ⟨g2, 0, none⟩) r r) r (recV encO (zO r)) ∧ SrcO W1 vd (Q.drop k)) := by
        intro W1 h1 h2
        have hb1 : Below w.heap.size w W1 := h2.below HB.out HB.out.size (fun j hj => (h1.lt j hj).1)
        refine ⟨hb1, ?_, ?_, ?_⟩
        · have h3 := (HD.out.later hb1).c2
          dsimp only at h3
          rw [HLQ2.out] at h3
          exact h3
        · refine owns_only HO2.out h2 (fun j hj h3 => ?_)
          simp [Value.ownBlock] at hj h3
          exact HNE.out (h3.trans hj.symm)
        · have h3 := SrcO.of_owns (HD.out.later hb1).ot
          have h4 := h3.drop (k := k) (by rw [HLQ2.out]; exact HKL.out) (by rw [HLQ2.out]; exact HCAP.out)
          rw [HLQ2.out, HVD.out] at h4
          exact h4
      have HFX := Lib.hid hFX
      have HRR := Lib.hid (show r ≤ (Q.drop k).length by rw [List.length_drop, HLQ2.out]; have := HR.out; omega)
      have hFY : ∀ W1 W2, Below w.heap.size w W1 → W1.ownsRow w.heap.size TO 2 (.slice (some ⟨g1, 0, none⟩) k k) k (recV encO (Q.take k)) → W2.ownsRow w.heap.size TO 2 (.slice (some ⟨g2, 0, none⟩) r r) r (recV encO ((Q.drop k).take r)) → Only (fun j => (Value.slice (some ⟨g2, 0, none⟩) r r).ownBlock = some j) W1 W2 →
          Hid (W2.cell? ⟨p, 2, none⟩ = some (.slice oa q oc) ∧ W2.frozen? ⟨p, 2, none⟩ = false ∧ DrainP w ⟨p, l, .slice oa Q.length oc⟩ N L Q k (.returned (.slice (some ⟨g1, 0, none⟩) k k)) (W2.setCell ⟨p, 2, none⟩ (.slice (some ⟨g2, 0, none⟩) r r))) := by
        intro W1 W2 hb1 h1 h2 ho
        have hb2 : Below w.heap.size w W2 := ho.below hb1 hb1.size (fun j hj => (h2.lt j hj).1)
        have hr : (Q.drop k).length = r := by rw [List.length_drop, HLQ2.out]; have := HR.out; omega
        have hk : (Q.take k).length = k := by rw [List.length_take]; have := HK1.out; omega
        have hc := (HD.out.later hb2).c2
        dsimp only at hc
        rw [HLQ2.out] at hc
        have h3 := owns_base (base' := 0) h2 (fun _ _ => Nat.zero_le _)
        rw [List.take_of_length_le (Nat.le_of_eq hr)] at h3
        have hT := HD.out.setO (w1 := W2) (S := fun _ => False) (Only.of_below hb2) (fun _ h => h.elim) (v := .slice (some ⟨g2, 0, none⟩) r r) (O' := Q.drop k) (by rw [hr]; exact h3) (fun j hj => .inr (h2.lt j hj).1)
        refine ⟨hc, (HD.out.later hb2).fz 2, _, .slice (some ⟨g2, 0, none⟩) r r, rfl, hT, ?_, fun j hj => ⟨(h1.lt j hj).1, fun h => ?_⟩⟩
        · rw [hk]
          refine owns_only (owns_only (owns_base h1 (fun _ _ => Nat.zero_le _)) ho (fun j hj h => ?_)) (Only.setCell (S := Eq p) _ ⟨p, 2, none⟩ rfl _) (fun j hj h => ?_)
          · simp [Value.ownBlock] at hj h
            exact HNE.out (hj.trans h.symm)
          · have h5 := (h1.lt j hj).1
            have h6 := HD.out.lt (k := p) (.inl rfl)
            omega
        · simp [Value.ownBlock] at hj h
          exact HNE.out (hj.trans h.symm)
      have HFY := Lib.hid hFY
      clear hFX hFY
      go_wp2_with (first
        | (refine wpList_slice_run rfl 30 _ _ _ _ rfl _ (S2.out _) ?_)
        | (refine wpList_copy_objs rfl (.tmp 27) (.tmp 31) rfl HO1.out HS.out HK1.out rfl rfl ?_; intro wx hox hoo; have HOX := Lib.hid hox; have HX := HFX.out wx hox hoo; clear hox hoo; have e2 := HX.out.2.1; have HOY := Lib.hid HX.out.2.2.1; have HSY := Lib.hid HX.out.2.2.2; have HBX := Lib.hid HX.out.1; clear HX)
        | (refine wpList_copy_objs rfl (.tmp 33) (.tmp 39) rfl HOY.out HSY.out HRR.out rfl rfl ?_; intro wy hoy hoz; have HY := HFY.out wx wy HBX.out HOX.out hoy hoz; clear hoy hoz HFX HFY HOY HSY HBX HOX HO1 HO2 HS HB; have e3 := HY.out.1; have f3 := HY.out.2.1; have HQ := Lib.hid HY.out.2.2; clear HY) | fail)
      go_ret
      exact HQ.out
end
/-- The landed depot is one. -/
theorem dep_ok : DepOk IsD where
  inv := fun ⟨_, h1, h2, h3, h4⟩ => ⟨h1, h2, h3, h4⟩
  new := fun n w => new_any n w
  rounds := by
    rintro X d N F Q w ⟨⟨D, rfl, rfl⟩, hF⟩ h
    exact (rounds_any h).mono fun _ _ ⟨e, e2⟩ => ⟨e, by rw [← e2]; exact Below.refl _ _⟩
  fulls := by
    rintro X d N F Q w ⟨⟨D, rfl, rfl⟩, hF⟩ h
    exact fulls_any h hF.1 hF.2.1 hF.2.2.1 hF.2.2.2
  queued := by
    rintro X d N F Q w ⟨⟨D, rfl, rfl⟩, hF⟩ h
    exact (queued_any h).mono fun _ _ ⟨e, e2⟩ => ⟨e, by rw [← e2]; exact Below.refl _ _⟩
  all := by
    rintro X d N F Q w ⟨⟨D, rfl, rfl⟩, hF⟩ h hq
    exact all_any h (by have := flat_le hF.2.1 hF.2.2.1 hF.2.2.2; omega) (by omega)
  put := by
    rintro X d N F Q w v m ⟨⟨D, rfl, rfl⟩, hF⟩ h hs
    exact put_any h hF hs
  queue := by
    rintro X d N F Q w x y ⟨⟨D, rfl, rfl⟩, hF⟩ h hq
    exact (queue_any h hF.1 (by omega) x y).mono fun _ _ ⟨v, e, hT⟩ => ⟨_, e, ⟨⟨⟨D.p, D.l, v⟩, rfl, rfl⟩, hF⟩, hT⟩
  get := by
    rintro X d N F Q w ⟨⟨D, rfl, rfl⟩, hF⟩ h
    rcases List.eq_nil_or_concat F with rfl | ⟨F2, m, rfl⟩
    · exact get_no h hF
    · rw [List.concat_eq_append] at h hF ⊢
      exact get_yes h hF
  drain := by
    rintro X d N F Q w n ⟨⟨D, rfl, rfl⟩, hF⟩ h hq
    exact (drain_any h (by omega) n).mono fun _ _ ⟨v, v2, e, hT, ho, hb⟩ => ⟨v, _, e, ⟨⟨⟨D.p, D.l, v2⟩, rfl, rfl⟩, hF⟩, hT, ho, fun k hk => ⟨.inr (hb k hk).1, fun h9 => by
      rcases h9 with h9 | h9 | h9
      · have h1 := (hb k hk).1
        have h2 := h.lt (k := k) (.inl h9)
        omega
      · have h1 := (hb k hk).1
        have h2 := h.lt (k := k) (.inr (.inl h9))
        omega
      · exact (hb k hk).2 h9⟩⟩
  flush := by
    rintro X d N F Q w ⟨⟨D, rfl, rfl⟩, hF⟩ h hq
    exact flush_any h hF (by omega)
end Go.Proofs.Ytagnipkannogoaa
