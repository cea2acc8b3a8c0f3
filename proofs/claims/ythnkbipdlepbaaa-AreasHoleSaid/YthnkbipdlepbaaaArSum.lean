/-
  areas: the landed mapped, Rights, Len.
-/
import Derived.Test.YthnkbipdlepbaaaArPt
namespace Go.Proofs.Ythnkbipdlepbaaa
open Go.RowKit Go.Shelf Go
attribute [local go_sem] Oper.semAt_some

theorem sumR_le (L : Rns) (p c : Nat) (hc : c ≤ 1024) : ∀ k, k ≤ L.length → sumR L p c k ≤ 1024 * k
  | 0, _ => by rw [sumR_zero]; exact Nat.zero_le _
  | k + 1, hk => by
    have h1 := sumR_le L p c hc k (by omega)
    have h2 : (partR (L[k]'(by omega)) p (p + c)).2.1 ≤ c := by simp only [partR]; omega
    rw [sumR_next p c k (by omega)]
    omega
section
variable {w w' : World} {d : Nat} {L : Rns} {f : Nat → Nat}
theorem AAt.at (h : AAt w d L) (hl : L.length ≤ 32) (k : Nat) (hk : k < L.length) {y1 y2 y3 : Nat} (hy : L[k] = (y1, y2, y3)) :
    w.cell? ⟨d, 1 + k * 3, none⟩ = some (.int .i64 y1) ∧ w.cell? ⟨d, 1 + k * 3 + 1, none⟩ = some (.int .i64 y2) ∧ w.cell? ⟨d, 1 + k * 3 + 2, none⟩ = some (.int .u8 y3) := by
  obtain ⟨g, o, e, h0, h1, h2⟩ := h.runs hl k hk
  simp only [Option.some.injEq, Addr.mk.injEq] at e
  obtain ⟨rfl, rfl, _⟩ := e
  rw [hy] at h0 h1 h2
  exact ⟨h0, h1, h2⟩
theorem aend_anyE (w : World) (a b r E : Nat) (hE : a + b = E) (h : E ≤ 2048) : Calls Try.prog 34 #[.agg #[.int .i64 a, .int .i64 b, .int .u8 r]] w fun e w' => e = .returned (.int .i64 E) ∧ Below w.heap.size w w' := by
  subst hE
  exact aend_any w a b r h
theorem part_anyE (w : World) (a b r s t z1 z2 z3 : Nat) (h : a + b ≤ 1024) (hs : s ≤ 1024) (ht : t ≤ 1024) (hz : partR (a, b, r) s t = (z1, z2, z3)) :
    Calls Try.prog 38 #[.agg #[.int .i64 a, .int .i64 b, .int .u8 r], .int .i64 s, .int .i64 t] w fun e w' => e = .returned (.agg #[.int .i64 z1, .int .i64 z2, .int .u8 z3]) ∧ Below w.heap.size w w' := by
  have h1 := part_any w a b r s t h hs ht
  rw [hz] at h1
  exact h1
set_option maxRecDepth 100000 in
theorem field_count (x y z : Int) (W : World) : (Instr.field 39 (.agg #[.int .i64 x, .int .i64 y, .int .u8 z]) 1).run Try.prog W = .ok (.int .i64 y) W := by kernel_rfl
set_option maxRecDepth 100000 in
set_option maxHeartbeats 1000000 in
theorem amapped_any (h : AAt w d L) (D : Desc f 1024 L) (hl : L.length ≤ 32) (p c : Nat) (hpc : p + c ≤ 1024) :
    Calls Try.prog 27 #[.pointer (some ⟨d, 0, none⟩), .int .i64 p, .int .i64 c] w fun e w' => e = .returned (.int .i64 (cntM f p c)) ∧ Below w.heap.size w w' := by
  have HA := Lib.hid h
  have HD := Lib.hid D
  have HALL := Lib.hid (aall_any h hl)
  obtain ⟨q, hq⟩ : ∃ q, p + c = q := ⟨_, rfl⟩
  have HQC := Lib.hid (show (p : Int) + (c : Int) = (q : Int) from by omega)
  have HQ := Lib.hid hq
  have hp1 : p ≤ 1024 := by omega
  have hc1 : c ≤ 1024 := by omega
  have hq1 : q ≤ 1024 := by omega
  have HE := Lib.hid (sumR_all D p c hpc)
  clear h D hq hpc
  go_enter Try.func27, Try.ntmps27
  go_wp2_with (fail)
  refine HALL.out.mono ?_
  rintro e w1 ⟨rfl, hb⟩
  have HB := Lib.hid hb
  clear hb
  go_wp2_with (fail)
  go_loopw [7, 13] (fun n i wr => ∃ k : Nat, k ≤ L.length ∧ n = .int .i64 (sumR L p c k) ∧ i = .int .i64 k ∧ Hid (Below w.heap.size w wr)) (fun _ i _ => L.length - (intOf i).toNat)
  case atStart => exact ⟨0, Nat.zero_le _, by rw [sumR_zero]; rfl, rfl, HB⟩
  case round =>
    obtain ⟨k, hk, rfl, rfl, HBk⟩ := hrel
    by_cases hlt : k < L.length
    · obtain ⟨y, hy⟩ : ∃ y, L[k] = y := ⟨_, rfl⟩
      obtain ⟨y1, y2, y3⟩ := y
      have hpos := HD.out.pos _ (List.getElem_mem hlt)
      rw [hy] at hpos
      dsimp only at hpos
      have HNX := Lib.hid (sumR_next p c k hlt)
      have hle := sumR_le L p c hc1 k hk
      rw [HQ.out, hy] at HNX
      obtain ⟨k0, k1, k2⟩ := AAt.at (HA.out.later HBk.out) hl k hlt hy
      obtain ⟨z, hz⟩ : ∃ z, partR (y1, y2, y3) p q = z := ⟨_, rfl⟩
      obtain ⟨z1, z2, z3⟩ := z
      have hz2 : z2 ≤ 1024 := by
        have := congrArg (fun t => t.2.1) hz
        simp only [partR] at this
        omega
      rw [hz] at HNX
      have HZ := Lib.hid hz
      have HY := Lib.hid (show y1 + y2 ≤ 1024 from hpos.2.2)
      generalize sumR L p c k = sk at *
      obtain ⟨s2, hs2⟩ : ∃ s2, sk + z2 = s2 := ⟨_, rfl⟩
      have HSE := Lib.hid (show (sk : Int) + (z2 : Int) = (s2 : Int) from by omega)
      have HS2 := Lib.hid (HNX.out.trans hs2)
      have hr := run_row wr (y1, y2, y3)
      have m0 : (wr.alloc (.cells #[.int .i64 y1, .int .i64 y2, .int .u8 y3] 39)).cell? ⟨wr.heap.size, 0, none⟩ = some (.int .i64 y1) := hr.cell 0 (by decide)
      have m1 : (wr.alloc (.cells #[.int .i64 y1, .int .i64 y2, .int .u8 y3] 39)).cell? ⟨wr.heap.size, 1, none⟩ = some (.int .i64 y2) := hr.cell 1 (by decide)
      have m2 : (wr.alloc (.cells #[.int .i64 y1, .int .i64 y2, .int .u8 y3] 39)).cell? ⟨wr.heap.size, 2, none⟩ = some (.int .u8 y3) := hr.cell 2 (by decide)
      have HBA := Lib.hid (HBk.out.alloc HBk.out.size (.cells #[.int .i64 y1, .int .i64 y2, .int .u8 y3] 39))
      clear hpos hz hy hr hs2 HNX
      go_wp2_with (fail)
      rw [HQC.out]
      refine (part_anyE _ y1 y2 y3 p q z1 z2 z3 HY.out hp1 hq1 HZ.out).mono ?_
      rintro e w2 ⟨rfl, hb⟩
      have HB2 := Lib.hid (HBA.out.trans (hb.mono HBA.out.size))
      have hfc := field_count z1 z2 z3
      clear hb m0 m1 m2 k0 k1 k2
      go_wp2_with (fail)
      go_roundw
      case rel => exact ⟨k + 1, hlt, by rw [HS2.out, HSE.out], by go_num, HB2⟩
      case measure => simp [intOf]; omega
    · obtain rfl : k = L.length := by omega
      go_wp2_with (fail)
      go_ret
      exact ⟨by rw [HE.out]; rfl, HBk.out⟩
set_option maxRecDepth 100000 in
set_option maxHeartbeats 4000000 in
theorem arights_any (h : AAt w d L) (D : Desc f 1024 L) (hl : L.length ≤ 32) (p : Int) :
    Calls Try.prog 19 #[.pointer (some ⟨d, 0, none⟩), .int .i64 p] w fun e w' => e = .returned (.tuple #[.int .u8 (rgV f p), .bool (rgV f p != 0)]) ∧ Below w.heap.size w w' := by
  have HA := Lib.hid h
  have HD := Lib.hid D
  have HALL := Lib.hid (aall_any h hl)
  clear h D
  go_enter Try.func19, Try.ntmps19
  go_wp2_with (fail)
  refine HALL.out.mono ?_
  rintro e w1 ⟨rfl, hb⟩
  have HB := Lib.hid hb
  clear hb
  go_wp2_with (fail)
  go_loopw [11] (fun i wr => ∃ k : Nat, k ≤ L.length ∧ i = .int .i64 k ∧ Hid (Below w.heap.size w wr) ∧ Hid (∀ j (hj : j < L.length), j < k → ¬ (((L[j]).1 : Int) ≤ p ∧ p < ((L[j]).1 : Int) + ((L[j]).2.1 : Int)))) (fun i _ => L.length - (intOf i).toNat)
  case atStart => exact ⟨0, Nat.zero_le _, rfl, HB, Lib.hid (fun j _ h => absurd h (Nat.not_lt_zero _))⟩
  case round =>
    obtain ⟨k, hk, rfl, HBk, HN⟩ := hrel
    by_cases hlt : k < L.length
    · obtain ⟨y, hy⟩ : ∃ y, L[k] = y := ⟨_, rfl⟩
      obtain ⟨y1, y2, y3⟩ := y
      have hpos := HD.out.pos _ (List.getElem_mem hlt)
      rw [hy] at hpos
      dsimp only at hpos
      obtain ⟨k0, k1, k2⟩ := AAt.at (HA.out.later HBk.out) hl k hlt hy
      have HST := fun (hno : ¬ ((y1 : Int) ≤ p ∧ p < (y1 : Int) + (y2 : Int))) => Lib.hid (show ∀ j (hj : j < L.length), j < k + 1 → ¬ (((L[j]).1 : Int) ≤ p ∧ p < ((L[j]).1 : Int) + ((L[j]).2.1 : Int)) from fun j hj hjk => by
        by_cases e : j = k
        · subst e
          rw [hy]
          exact hno
        · exact HN.out j hj (by omega))
      obtain ⟨E, hE⟩ : ∃ E, y1 + y2 = E := ⟨_, rfl⟩
      have hEl : E ≤ 2048 := by have := hpos.2.2; omega
      have HHIT := fun h1 h2 => HD.out.hit (x := (y1, y2, y3)) (by rw [← hy]; exact List.getElem_mem hlt) (p := p) h1 h2
      have HE := Lib.hid hE
      have HST := Lib.hid HST
      have HHIT := Lib.hid HHIT
      have hr := run_row wr (y1, y2, y3)
      have m0 : (wr.alloc (.cells #[.int .i64 y1, .int .i64 y2, .int .u8 y3] 39)).cell? ⟨wr.heap.size, 0, none⟩ = some (.int .i64 y1) := hr.cell 0 (by decide)
      have m1 : (wr.alloc (.cells #[.int .i64 y1, .int .i64 y2, .int .u8 y3] 39)).cell? ⟨wr.heap.size, 1, none⟩ = some (.int .i64 y2) := hr.cell 1 (by decide)
      have m2 : (wr.alloc (.cells #[.int .i64 y1, .int .i64 y2, .int .u8 y3] 39)).cell? ⟨wr.heap.size, 2, none⟩ = some (.int .u8 y3) := hr.cell 2 (by decide)
      have HR2 := Lib.hid hr
      have HBA := Lib.hid (HBk.out.alloc HBk.out.size (.cells #[.int .i64 y1, .int .i64 y2, .int .u8 y3] 39))
      clear hpos hy hr hE HN
      by_cases a1 : (y1 : Int) ≤ p
      · go_wp2_with (fail)
        refine (aend_anyE _ y1 y2 y3 E HE.out hEl).mono ?_
        rintro e w2 ⟨rfl, hb⟩
        have HB2 := Lib.hid (HBA.out.trans (hb.mono HBA.out.size))
        have n2 : w2.cell? ⟨wr.heap.size, 2, none⟩ = some (.int .u8 y3) := (HR2.out.later hb).cell 2 (by decide)
        clear hb m0 m1 m2 k0 k1 k2
        by_cases a2 : p < (E : Int)
        · obtain ⟨e1, e2⟩ := HHIT.out a1 (show p < (y1 : Int) + (y2 : Int) by have := HE.out; omega)
          have e1 : rgV f p = y3 := e1
          have e2 : 1 ≤ y3 := e2
          have HR := Lib.hid (show (rgV f p != 0) = true by rw [e1]; simp; omega)
          have H1 := Lib.hid e1
          clear e1 e2
          go_wp2_with (fail)
          go_ret2
          exact ⟨by rw [HR.out, H1.out]; rfl, HB2.out⟩
        · have HN2 := HST.out (fun h => a2 (by have := HE.out; omega))
          go_wp2_with (fail)
          go_roundw
          case rel => exact ⟨k + 1, hlt, by go_num, HB2, HN2⟩
          case measure => simp [intOf]; omega
      · have HN2 := HST.out (fun h => a1 h.1)
        go_wp2_with (fail)
        go_roundw
        case rel => exact ⟨k + 1, hlt, by go_num, HBA, HN2⟩
        case measure => simp [intOf]; omega
    · obtain rfl : k = L.length := by omega
      have H0 := Lib.hid (HD.out.miss (p := p) (fun j hj => HN.out j hj hj))
      go_wp2_with (fail)
      go_ret2
      exact ⟨by rw [H0.out]; rfl, HBk.out⟩
set_option maxRecDepth 100000 in
set_option maxHeartbeats 4000000 in
theorem alen_any (h : AAt w d L) (hl : L.length ≤ 32) : Calls Try.prog 24 #[.pointer (some ⟨d, 0, none⟩)] w fun e w' => e = .returned (.int .i64 L.length) ∧ Below w.heap.size w w' := by
  have HALL := Lib.hid (aall_any h hl)
  clear h
  go_enter Try.func24, Try.ntmps24
  go_wp2_with (fail)
  refine HALL.out.mono ?_
  rintro e w1 ⟨rfl, hb⟩
  have HB := Lib.hid hb
  clear hb
  go_wp2_with (fail)
  go_ret
  exact ⟨rfl, HB.out⟩
end
end Go.Proofs.Ythnkbipdlepbaaa
