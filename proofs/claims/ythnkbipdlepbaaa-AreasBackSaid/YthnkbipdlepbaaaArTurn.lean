/-
  areas: the landed turn.
-/
import Derived.Test.YthnkbipdlepbaaaArCpy
import Derived.Test.YthnkbipdlepbaaaArSum
namespace Go.Proofs.Ythnkbipdlepbaaa
open Go.RowKit Go.Shelf Go
attribute [local go_sem] Oper.semAt_some

theorem joinR_len (M : Rns) (x : Nat × Nat × Nat) : (joinR M x).length ≤ M.length + 1 := by
  unfold joinR
  split
  · omega
  · split
    · rw [List.length_set]; omega
    · simp
theorem cutA_len (L : Rns) (t : Nat) : ∀ k, k ≤ L.length → (cutA L t k).length ≤ k
  | 0, _ => by rw [cutA_zero]; exact Nat.le_refl _
  | k + 1, hk => by
    have := cutA_len L t k (by omega)
    have := joinR_len (cutA L t k) (partR (L[k]'(by omega)) 0 t)
    rw [cutA_next t k (by omega)]
    omega
theorem cutB_len (L : Rns) (s : Nat) (M : Rns) : ∀ k, k ≤ L.length → (cutB L s M k).length ≤ M.length + k
  | 0, _ => by rw [cutB_zero]; exact Nat.le_refl _
  | k + 1, hk => by
    have := cutB_len L s M k (by omega)
    have := joinR_len (cutB L s M k) (partR (L[k]'(by omega)) s 1024)
    rw [cutB_next s M k (by omega)]
    omega
theorem partR_end (x : Nat × Nat × Nat) (s t : Nat) (h : x.1 + x.2.1 ≤ 1024) (hs : s ≤ 1024) : (partR x s t).1 + (partR x s t).2.1 ≤ 1024 := by
  simp only [partR]
  omega
/-- What Desc says of where runs end. -/
theorem Desc.ends {f : Nat → Nat} {n : Nat} {M : Rns} (D : Desc f n M) (hn : n ≤ 1024) : ∀ x ∈ M, x.1 + x.2.1 ≤ 1024 := fun x hx => Nat.le_trans (D.pos x hx).2.2 hn
theorem join_anyE {w : World} {B : Nat} {v : Value} {M : Rns} (hO : w.ownsRow B TRun 3 v M.length (recV encR M)) (hB : B ≤ w.heap.size) (hM : M.length ≤ 1000) (hx : ∀ x ∈ M, x.1 + x.2.1 ≤ 1024) (a b r : Nat) (hab : a + b ≤ 1024) (N : Rns) (hN : N = joinR M (a, b, r)) :
    Calls Try.prog 39 #[v, .agg #[.int .i64 a, .int .i64 b, .int .u8 r]] w (JoinP w B v N) := by
  subst hN
  exact join_any hO hB hM hx a b r hab
theorem part_anyI (w : World) (a b r s t z1 z2 z3 : Nat) (si ti : Int) (es : si = s) (et : ti = t) (h : a + b ≤ 1024) (hs : s ≤ 1024) (ht : t ≤ 1024) (hz : partR (a, b, r) s t = (z1, z2, z3)) :
    Calls Try.prog 38 #[.agg #[.int .i64 a, .int .i64 b, .int .u8 r], .int .i64 si, .int .i64 ti] w fun e w' => e = .returned (.agg #[.int .i64 z1, .int .i64 z2, .int .u8 z3]) ∧ Below w.heap.size w w' := by
  subst es; subst et
  exact part_anyE w a b r s t z1 z2 z3 h hs ht hz
theorem slice_all (b : Nat) (W : World) : (Instr.sliceAt 40 (.pointer (some ⟨b, 1, none⟩)) none none none).run Try.prog W = .ok (.slice (some ⟨b, 1, none⟩) 32 32) W := by kernel_rfl
theorem slice_rest (b l : Nat) (hl : l ≤ 32) (W : World) : (Instr.sliceAt 40 (.pointer (some ⟨b, 1, none⟩)) (some (.int .i64 l)) none none).run Try.prog W = .ok (fromV b 1 32 3 l) W :=
  run_slice_from (s := 3) Try.underlying40 (fun w => by kernel_rfl) l hl W b 1
/-- What turn leaves. -/
def TurnP (w : World) (d : Nat) (L M : Rns) (e : Ending) (w' : World) : Prop :=
  e = .returned (.int .i64 (if 32 < M.length then 9 else 0)) ∧ AAt w' d (if 32 < M.length then L else M) ∧ Only (fun k => k = d) w w'
section
variable {w : World} {d : Nat} {L : Rns} {f : Nat → Nat}
set_option maxRecDepth 100000 in
set_option maxHeartbeats 8000000 in
theorem aturn_any (h : AAt w d L) (D : Desc f 1024 L) (hl : L.length ≤ 32) (p c r : Nat) (hpc : p + c ≤ 1024) :
    Calls Try.prog 28 #[.pointer (some ⟨d, 0, none⟩), .agg #[.int .i64 p, .int .i64 c, .int .u8 r]] w (TurnP w d L (turnR L p c r)) := by
  have hdw := h.lt
  obtain ⟨q, hq⟩ : ∃ q, p + c = q := ⟨_, rfl⟩
  have hq1 : q ≤ 1024 := by omega
  have hp1 : p ≤ 1024 := by omega
  obtain ⟨g, hg⟩ : ∃ g : Nat → Nat, g = fun i => if p ≤ i ∧ i < p + c then r else f i := ⟨_, rfl⟩
  have hga : ∀ k, k < p → g k = f k := fun k hk => by rw [hg]; dsimp only; rw [if_neg (by omega)]
  have hgb : ∀ k, p + c ≤ k → g k = f k := fun k hk => by rw [hg]; dsimp only; rw [if_neg (by omega)]
  have DA := fun k hk => (cutA_desc D hp1 hga k hk).ends (Nat.le_trans (Nat.min_le_left _ _) hp1)
  have DJ : Desc g (p + c) (joinR (cutA L p L.length) (p, c, r)) := join_desc (x := (p, c, r)) (cutA_all D hp1 hga) (Nat.le_refl _) (fun k a b => by dsimp only at b; omega) (fun k a b => by dsimp only at a b ⊢; rw [hg]; dsimp only; rw [if_pos ⟨a, b⟩])
  have DB := fun k hk => (cutB_desc D hpc hgb DJ k hk).ends (by
    have he : endK L k ≤ 1024 := by
      cases k with
      | zero => exact Nat.zero_le _
      | succ k =>
        rw [endK_next k (by omega)]
        exact (D.pos _ (List.getElem_mem _)).2.2
    omega)
  have lA := fun k (hk : k ≤ L.length) => Nat.le_trans (cutA_len L p k hk) (Nat.le_trans hk hl)
  have lJ := joinR_len (cutA L p L.length) (p, c, r)
  have lJ2 := lA L.length (Nat.le_refl _)
  have lB := fun k (hk : k ≤ L.length) => cutB_len L (p + c) (joinR (cutA L p L.length) (p, c, r)) k hk
  obtain ⟨J, hJ⟩ : ∃ J, joinR (cutA L p L.length) (p, c, r) = J := ⟨_, rfl⟩
  rw [hJ, hq] at DB lB
  rw [hJ] at DJ lJ
  have lB2 : ∀ k, k ≤ L.length → (cutB L q J k).length ≤ 100 := fun k hk => by have := lB k hk; omega
  have HT := Lib.hid (show turnR L p c r = cutB L q J L.length from by rw [turnR, hJ, hq])
  have HJ := Lib.hid hJ.symm
  have HDA := Lib.hid DA
  have HDJ := Lib.hid (DJ.ends hpc)
  have HDB := Lib.hid DB
  have HlA := Lib.hid lA
  have HlB := Lib.hid lB2
  have HlJ := Lib.hid (show J.length ≤ 100 from by omega)
  have HD := Lib.hid D
  have HQ := Lib.hid hq
  rw [HT.out]
  obtain ⟨w1, hw1⟩ : ∃ w1, w.alloc (.cells #[.int .i64 p, .int .i64 c, .int .u8 r] TRun) = w1 := ⟨_, rfl⟩
  have hb1 : Below w.heap.size w w1 := by rw [← hw1]; exact (Below.refl _ _).alloc (Nat.le_refl _) _
  have hs1 : w1.heap.size = w.heap.size + 1 := by rw [← hw1]; simp
  have HR1 := Lib.hid (show RowAt w1 w.heap.size 3 (rnV (p, c, r)) from by rw [← hw1]; exact run_row w (p, c, r))
  have HA1 := Lib.hid (h.later hb1)
  have HB1 := Lib.hid hb1
  have HA0 := Lib.hid h
  have hle1 : w1.heap.size ≤ w1.heap.size := Nat.le_refl _
  have hbx : w.heap.size < w1.heap.size := by omega
  have HS1 := Lib.hid hs1
  have HPC := Lib.hid hpc
  clear h D hg hga hgb DA DJ DB lA lJ lJ2 lB lB2 hJ hq hb1 hs1 HT hpc
  go_enter Try.func28, Try.ntmps28
  go_wp2_with (fail)
  refine (aall_any HA1.out hl).mono ?_
  rintro e w2 ⟨rfl, hb⟩
  have HB2 := Lib.hid hb
  clear hb
  go_wp2_with (fail)
  go_loopw [5, 13] (fun u i wr => ∃ (k : Nat) (v : Value), k ≤ L.length ∧ u = v ∧ i = .int .i64 k ∧ Hid (wr.ownsRow w1.heap.size TRun 3 v (cutA L p k).length (recV encR (cutA L p k))) ∧ Hid (Below w1.heap.size w1 wr)) (fun _ i _ => L.length - (intOf i).toNat)
  case atStart => exact ⟨0, _, Nat.zero_le _, rfl, rfl, by rw [cutA_zero]; exact World.ownsRow_nil _ _ _ _, HB2⟩
  case round =>
    obtain ⟨k, v, hk, hv0, rfl, HO, HBk⟩ := hrel
    have hv0 := hv0.symm
    subst hv0
    by_cases hlt : k < L.length
    · obtain ⟨y, hy⟩ : ∃ y, L[k] = y := ⟨_, rfl⟩
      obtain ⟨y1, y2, y3⟩ := y
      have hpos := HD.out.pos _ (List.getElem_mem hlt)
      rw [hy] at hpos
      dsimp only at hpos
      have HNX := Lib.hid (cutA_next p k hlt)
      rw [hy] at HNX
      obtain ⟨k0, k1, k2⟩ := AAt.at (HA1.out.later (HBk.out.mono hle1)) hl k hlt hy
      obtain ⟨z, hz⟩ : ∃ z, partR (y1, y2, y3) 0 p = z := ⟨_, rfl⟩
      obtain ⟨z1, z2, z3⟩ := z
      have hze := partR_end (y1, y2, y3) 0 p hpos.2.2 (by omega)
      rw [hz] at HNX hze
      dsimp only at hze
      have HZ := Lib.hid hz
      have HY := Lib.hid hpos.2.2
      have HZE := Lib.hid hze
      have hr := run_row wr (y1, y2, y3)
      have m0 : (wr.alloc (.cells #[.int .i64 y1, .int .i64 y2, .int .u8 y3] 39)).cell? ⟨wr.heap.size, 0, none⟩ = some (.int .i64 y1) := hr.cell 0 (by decide)
      have m1 : (wr.alloc (.cells #[.int .i64 y1, .int .i64 y2, .int .u8 y3] 39)).cell? ⟨wr.heap.size, 1, none⟩ = some (.int .i64 y2) := hr.cell 1 (by decide)
      have m2 : (wr.alloc (.cells #[.int .i64 y1, .int .i64 y2, .int .u8 y3] 39)).cell? ⟨wr.heap.size, 2, none⟩ = some (.int .u8 y3) := hr.cell 2 (by decide)
      have HBA := Lib.hid (HBk.out.alloc HBk.out.size (.cells #[.int .i64 y1, .int .i64 y2, .int .u8 y3] 39))
      have bx0 : (wr.alloc (.cells #[.int .i64 y1, .int .i64 y2, .int .u8 y3] 39)).cell? ⟨w.heap.size, 0, none⟩ = some (.int .i64 p) := (HR1.out.later HBA.out).cell 0 (by decide)
      clear hpos hz hy hr hze
      go_wp2_with (fail)
      refine (part_anyI _ y1 y2 y3 0 p z1 z2 z3 _ _ rfl rfl HY.out (Nat.zero_le _) hp1 HZ.out).mono ?_
      rintro e w3 ⟨rfl, hb⟩
      have HB3 := Lib.hid (HBA.out.trans (hb.mono HBA.out.size))
      have HO3 := Lib.hid (owns_later (owns_later HO.out ((Below.refl wr.heap.size wr).alloc (Nat.le_refl _) (.cells #[.int .i64 y1, .int .i64 y2, .int .u8 y3] 39))) hb)
      clear hb m0 m1 m2 k0 k1 k2 bx0
      go_wp2_with (fail)
      refine (join_anyE HO3.out HB3.out.size (Nat.le_trans (HlA.out k hk) (by decide)) (HDA.out k hk) z1 z2 z3 HZE.out _ HNX.out).mono ?_
      rintro e w4 ⟨v4, rfl, ho, hon⟩
      have HO4 := Lib.hid ho
      have HB4 := Lib.hid (hon.below HB3.out HB3.out.size (fun j hj => (HO3.out.lt j hj).1))
      clear ho hon
      go_wp2_with (fail)
      go_roundw
      case rel => exact ⟨k + 1, v4, hlt, rfl, by go_num, HO4, HB4⟩
      case measure => simp [intOf]; omega
    · obtain rfl : k = L.length := by omega
      clear hlt hk HB2
      have L0 := Lib.hid (show (loadVar 39 ⟨w.heap.size, 0, none⟩).run Try.prog wr = .ok (.agg #[.int .i64 p, .int .i64 c, .int .u8 r]) wr from by
        have h := HR1.out.later HBk.out
        exact load_run (h.cell 0 (by decide)) (h.cell 1 (by decide)) (h.cell 2 (by decide)))
      have b0 : wr.cell? ⟨w.heap.size, 0, none⟩ = some (.int .i64 p) := (HR1.out.later HBk.out).cell 0 (by decide)
      have b1 : wr.cell? ⟨w.heap.size, 1, none⟩ = some (.int .i64 c) := (HR1.out.later HBk.out).cell 1 (by decide)
      have b2 : wr.cell? ⟨w.heap.size, 2, none⟩ = some (.int .u8 r) := (HR1.out.later HBk.out).cell 2 (by decide)
      go_wp2_with (fail)
      refine (join_anyE HO.out HBk.out.size (Nat.le_trans (HlA.out _ (Nat.le_refl _)) (by decide)) (HDA.out _ (Nat.le_refl _)) p c r HPC.out _ HJ.out).mono ?_
      rintro e w5 ⟨v5, rfl, ho, hon⟩
      have HO5 := Lib.hid ho
      have HB5 := Lib.hid (hon.below HBk.out HBk.out.size (fun j hj => (HO.out.lt j hj).1))
      clear ho hon b0 b1 b2 L0 HO
      go_wp2_with (fail)
      refine (aall_any (HA1.out.later HB5.out) hl).mono ?_
      rintro e w6 ⟨rfl, hb⟩
      have HB6 := Lib.hid (HB5.out.trans (hb.mono HB5.out.size))
      have HO6 := Lib.hid (owns_later HO5.out hb)
      clear hb
      go_wp2_with (fail)
      go_loopw [5, 30] (fun u i wr => ∃ (k : Nat) (v : Value), k ≤ L.length ∧ u = v ∧ i = .int .i64 k ∧ Hid (wr.ownsRow w1.heap.size TRun 3 v (cutB L q J k).length (recV encR (cutB L q J k))) ∧ Hid (Below w1.heap.size w1 wr)) (fun _ i _ => L.length - (intOf i).toNat)
      case atStart => exact ⟨0, v5, Nat.zero_le _, rfl, rfl, by rw [cutB_zero]; exact HO6, HB6⟩
      case round =>
        clear HO6 HO5 HB6 HB5 HBk
        obtain ⟨k, v, hk, hv0, rfl, HO, HBk⟩ := hrel
        have hv0 := hv0.symm
        subst hv0
        by_cases hlt : k < L.length
        · obtain ⟨y, hy⟩ : ∃ y, L[k] = y := ⟨_, rfl⟩
          obtain ⟨y1, y2, y3⟩ := y
          have hpos := HD.out.pos _ (List.getElem_mem hlt)
          rw [hy] at hpos
          dsimp only at hpos
          have HNX := Lib.hid (cutB_next q J k hlt)
          rw [hy] at HNX
          obtain ⟨k0, k1, k2⟩ := AAt.at (HA1.out.later (HBk.out.mono hle1)) hl k hlt hy
          obtain ⟨z, hz⟩ : ∃ z, partR (y1, y2, y3) q 1024 = z := ⟨_, rfl⟩
          obtain ⟨z1, z2, z3⟩ := z
          have hze := partR_end (y1, y2, y3) q 1024 hpos.2.2 (by omega)
          rw [hz] at HNX hze
          dsimp only at hze
          have HZ := Lib.hid hz
          have HY := Lib.hid hpos.2.2
          have HZE := Lib.hid hze
          have hr := run_row wr (y1, y2, y3)
          have m0 : (wr.alloc (.cells #[.int .i64 y1, .int .i64 y2, .int .u8 y3] 39)).cell? ⟨wr.heap.size, 0, none⟩ = some (.int .i64 y1) := hr.cell 0 (by decide)
          have m1 : (wr.alloc (.cells #[.int .i64 y1, .int .i64 y2, .int .u8 y3] 39)).cell? ⟨wr.heap.size, 1, none⟩ = some (.int .i64 y2) := hr.cell 1 (by decide)
          have m2 : (wr.alloc (.cells #[.int .i64 y1, .int .i64 y2, .int .u8 y3] 39)).cell? ⟨wr.heap.size, 2, none⟩ = some (.int .u8 y3) := hr.cell 2 (by decide)
          have HBA := Lib.hid (HBk.out.alloc HBk.out.size (.cells #[.int .i64 y1, .int .i64 y2, .int .u8 y3] 39))
          have HSW := Lib.hid (show RowAt (wr.alloc (.cells #[.int .i64 y1, .int .i64 y2, .int .u8 y3] 39)).drew wr.heap.size 3 (rnV (y1, y2, y3)) ∧ RowAt (wr.alloc (.cells #[.int .i64 y1, .int .i64 y2, .int .u8 y3] 39)).drew w.heap.size 3 (rnV (p, c, r)) from ⟨hr.later (below_drewN (Below.refl _ _) 1), (HR1.out.later HBA.out).later (below_drewN (Below.refl _ _) 1)⟩)
          have LZ := Lib.hid (show ∀ U, RowAt U wr.heap.size 3 (rnV (y1, y2, y3)) ∧ RowAt U w.heap.size 3 (rnV (p, c, r)) → (loadVar 39 ⟨wr.heap.size, 0, none⟩).run Try.prog U = .ok (.agg #[.int .i64 y1, .int .i64 y2, .int .u8 y3]) U from fun U hU => load_run (hU.1.cell 0 (by decide)) (hU.1.cell 1 (by decide)) (hU.1.cell 2 (by decide)))
          have LX := Lib.hid (show ∀ U, RowAt U wr.heap.size 3 (rnV (y1, y2, y3)) ∧ RowAt U w.heap.size 3 (rnV (p, c, r)) → (loadVar 39 ⟨w.heap.size, 0, none⟩).run Try.prog U = .ok (.agg #[.int .i64 p, .int .i64 c, .int .u8 r]) U from fun U hU => load_run (hU.2.cell 0 (by decide)) (hU.2.cell 1 (by decide)) (hU.2.cell 2 (by decide)))
          have HOA := Lib.hid (owns_later HO.out ((Below.refl wr.heap.size wr).alloc (Nat.le_refl _) (.cells #[.int .i64 y1, .int .i64 y2, .int .u8 y3] 39)))
          have HN1 := Lib.hid (show ∀ j, v.ownBlock = some j → j < wr.heap.size ∧ j ≠ wr.heap.size ∧ j ≠ w.heap.size from fun j hj => by
            have := HO.out.lt j hj
            omega)
          clear hpos hz hy hr hze
          go_wp2_with (fail)
          clear m0 m1 m2 k0 k1 k2
          generalize wr.alloc (.cells #[.int .i64 y1, .int .i64 y2, .int .u8 y3] 39) = wA at HBA HSW HOA ⊢
          refine wp_region_lex1 (fun U => RowAt U wr.heap.size 3 (rnV (y1, y2, y3)) ∧ RowAt U w.heap.size 3 (rnV (p, c, r))) [(0, false), (1, false), (2, false), (3, true), (4, true), (5, true), (6, false)] (by kernel_rfl) (by kernel_rfl) rfl (by kernel_rfl) HSW.out ?_
          intro U0 hU0 hK0
          have HS0 := Lib.hid hK0
          have hb : Below wA.heap.size wA U0 := by rw [hU0]; exact below_drewN (Below.refl _ _) 1
          have HB0 := Lib.hid (HBA.out.trans (hb.mono HBA.out.size))
          have HO0 := Lib.hid (owns_later HOA.out hb)
          clear hU0 hK0 hb HSW HBA HOA
          refine lexH_yieldE rfl rfl ?_
          apply Exists.intro
          refine ⟨fun W hW => ?_, ?_⟩
          focus (go_simp; exact rfl)
          simp only [List.getElem_toArray, List.getElem_cons_zero, Act.put, List.setIfInBounds_toArray, List.set_cons_zero, List.set_cons_succ]
          refine lexH_load rfl rfl _ _ rfl rfl LZ.out ?_
          simp only [List.getElem_toArray, List.getElem_cons_succ, List.getElem_cons_zero, Act.put, List.setIfInBounds_toArray, List.set_cons_zero, List.set_cons_succ]
          refine lexH_load rfl rfl _ _ rfl rfl LX.out ?_
          simp only [List.getElem_toArray, List.getElem_cons_succ, List.getElem_cons_zero, Act.put, List.setIfInBounds_toArray, List.set_cons_zero, List.set_cons_succ]
          refine lexH_call 34 #[.agg #[.int .i64 p, .int .i64 c, .int .u8 r]] rfl rfl ?_ ?_
          focus (go_simp; done)
          refine (aend_anyE _ p c r q HQ.out (by omega)).mono ?_
          rintro e U1 ⟨rfl, hb⟩
          have HS1' := Lib.hid (show RowAt U1 wr.heap.size 3 (rnV (y1, y2, y3)) ∧ RowAt U1 w.heap.size 3 (rnV (p, c, r)) from ⟨HS0.out.1.later hb, HS0.out.2.later hb⟩)
          have HB1' := Lib.hid (HB0.out.trans (hb.mono HB0.out.size))
          have HO1' := Lib.hid (owns_later HO0.out hb)
          clear hb HS0 HB0 HO0
          refine ⟨_, rfl, HS1'.out, ?_⟩
          simp only [List.getElem_toArray, List.getElem_cons_succ, List.getElem_cons_zero, Act.put, List.setIfInBounds_toArray, List.set_cons_zero, List.set_cons_succ]
          refine lexH_call 38 #[.agg #[.int .i64 y1, .int .i64 y2, .int .u8 y3], .int .i64 q, .int .i64 1024] rfl rfl ?_ ?_
          focus (go_simp; done)
          refine (part_anyI _ y1 y2 y3 q 1024 z1 z2 z3 _ _ rfl rfl HY.out hq1 (Nat.le_refl _) HZ.out).mono ?_
          rintro e U2 ⟨rfl, hb⟩
          have HS2 := Lib.hid (show RowAt U2 wr.heap.size 3 (rnV (y1, y2, y3)) ∧ RowAt U2 w.heap.size 3 (rnV (p, c, r)) from ⟨HS1'.out.1.later hb, HS1'.out.2.later hb⟩)
          have HB2' := Lib.hid (HB1'.out.trans (hb.mono HB1'.out.size))
          have HO2 := Lib.hid (owns_later HO1'.out hb)
          clear hb HS1' HB1' HO1'
          refine ⟨_, rfl, HS2.out, ?_⟩
          simp only [List.getElem_toArray, List.getElem_cons_succ, List.getElem_cons_zero, Act.put, List.setIfInBounds_toArray, List.set_cons_zero, List.set_cons_succ]
          refine lexH_call 39 #[v, .agg #[.int .i64 z1, .int .i64 z2, .int .u8 z3]] rfl rfl ?_ ?_
          focus (go_simp; done)
          refine (join_anyE HO2.out HB2'.out.size (Nat.le_trans (HlB.out k hk) (by decide)) (HDB.out k hk) z1 z2 z3 HZE.out _ HNX.out).mono ?_
          rintro e U3 ⟨v4, rfl, ho, hon⟩
          have HO4 := Lib.hid ho
          have HB4 := Lib.hid (hon.below HB2'.out HB2'.out.size (fun j hj => (HO2.out.lt j hj).1))
          have HS3 := Lib.hid (show RowAt U3 wr.heap.size 3 (rnV (y1, y2, y3)) ∧ RowAt U3 w.heap.size 3 (rnV (p, c, r)) from ⟨HS2.out.1.only hon (fun hj => (HN1.out _ hj).2.1 rfl), HS2.out.2.only hon (fun hj => (HN1.out _ hj).2.2 rfl)⟩)
          clear ho hon HS2 HO2
          refine ⟨_, rfl, HS3.out, ?_⟩
          simp only [List.getElem_toArray, List.getElem_cons_succ, List.getElem_cons_zero, Act.put, List.setIfInBounds_toArray, List.set_cons_zero, List.set_cons_succ]
          refine lexH_yieldE rfl rfl ?_
          apply Exists.intro
          refine ⟨fun W hW => ?_, ?_⟩
          focus (go_simp; exact rfl)
          simp only [List.getElem_toArray, List.getElem_cons_succ, List.getElem_cons_zero, Act.put, List.setIfInBounds_toArray, List.set_cons_zero, List.set_cons_succ]
          refine lexH_nil ?_
          go_wp2_with (fail)
          go_roundw
          case rel => exact ⟨k + 1, v4, hlt, rfl, by go_num, HO4, HB4⟩
          case measure => simp [intOf]; omega
        · obtain rfl : k = L.length := by omega
          clear hlt hk
          have HLE := Lib.hid (HlB.out L.length (Nat.le_refl _))
          generalize cutB L q J L.length = M at *
          have HBF := Lib.hid (HB1.out.trans (HBk.out.mono HB1.out.size))
          have HAF := Lib.hid (HA0.out.later HBF.out)
          obtain ⟨va, vc, hv, _⟩ := owns_slice HO.out
          subst hv
          by_cases hM : 32 < M.length
          · have hMI : ¬ (M.length : Int) ≤ 32 := by omega
            have hMI2 : (32 : Int) < (M.length : Int) := by omega
            go_wp2_with (fail)
            go_ret
            unfold TurnP
            rw [if_pos hM, if_pos hM]
            exact ⟨rfl, HAF.out, Only.of_below HBF.out⟩
          · have hle : M.length ≤ 32 := by omega
            have hMI : (M.length : Int) ≤ 32 := by omega
            have hMI2 : ¬ (32 : Int) < (M.length : Int) := by omega
            have hn0 : ¬ (M.length : Int) < 0 := by omega
            have hsa := slice_all d
            obtain ⟨wC, hcp, hrC, hoC⟩ := run_copy_runs (w := wr) 3 HAF.out HO.out hle
            unfold goInt at hcp
            have c0 := hrC.cell 0 (by decide)
            have z0 := hrC.frozen 0
            have e0 : laidF (arV L) 1 (recV encR M) 0 = .int .i64 L.length := by unfold laidF; rw [if_neg (fun h => absurd h.1 (by decide))]; rfl
            rw [e0] at c0
            have hrD := hrC.setCell 0 (.int .i64 M.length)
            have hoD := hoC.trans (Only.setCell (S := fun k => k = d) wC ⟨d, 0, none⟩ rfl (.int .i64 M.length))
            obtain ⟨wE, hcl, hrE, hoE⟩ := run_clear_runs 0 (hrD.later (below_drewN (Below.refl _ _) 1)) M.length hle
            have HAE := Lib.hid (show AAt wE d M from hrE.ext (fun i hi => laid_all (arV L) M hle i hi))
            have HOE := Lib.hid (show Only (fun k => k = d) w wE from (Only.of_below HBF.out).trans (hoD.trans ((Only.drewN _ _ 1).trans hoE)))
            have HCD := Lib.hid (show (wC.setCell ⟨d, 0, none⟩ (.int .i64 M.length)).drew.cell? ⟨d, 0, none⟩ = some (.int .i64 M.length) from hrD.cell 0 (by decide))
            have HCL := Lib.hid hcl
            have hsr := slice_rest d M.length hle
            have LC := Lib.hid (show ∀ U : World, U.cell? ⟨d, 0, none⟩ = some (.int .i64 M.length) → (loadVar 3 ⟨d, 0, none⟩).run Try.prog U = .ok (.int .i64 M.length) U from fun U hU => run_loadVar_cell (fun _ => by kernel_rfl) hU)
            clear hrC hoC hrD hoD hrE hoE e0 hcl
            go_wp2_with (fail)
            refine wp_region_lexF (fun U => U.cell? ⟨d, 0, none⟩ = some (.int .i64 M.length)) [(0, false), (1, false), (2, false), (3, false), (4, false), (5, false), (6, false), (7, false)] 8 (by kernel_rfl) (by kernel_rfl) rfl (by kernel_rfl) HCD.out ?_
            intro V0 hV0 hKV
            subst hV0
            clear hKV c0 z0 hcp
            refine lexH_yieldE rfl rfl ?_
            apply Exists.intro
            refine ⟨fun W hW => ?_, ?_⟩
            focus (go_simp; exact rfl)
            simp only [List.getElem_toArray, List.getElem_cons_zero, Act.put, List.setIfInBounds_toArray, List.set_cons_zero, List.set_cons_succ]
            refine lexH_yieldE rfl rfl ?_
            apply Exists.intro
            refine ⟨fun W hW => ?_, ?_⟩
            focus (go_simp; exact rfl)
            simp only [List.getElem_toArray, List.getElem_cons_succ, List.getElem_cons_zero, Act.put, List.setIfInBounds_toArray, List.set_cons_zero, List.set_cons_succ]
            refine lexH_yieldE rfl rfl ?_
            apply Exists.intro
            refine ⟨fun W hW => ?_, ?_⟩
            focus (go_simp; exact rfl)
            simp only [List.getElem_toArray, List.getElem_cons_succ, List.getElem_cons_zero, Act.put, List.setIfInBounds_toArray, List.set_cons_zero, List.set_cons_succ]
            refine lexH_yieldE rfl rfl ?_
            apply Exists.intro
            refine ⟨fun W hW => ?_, ?_⟩
            focus (go_simp; exact rfl)
            simp only [List.getElem_toArray, List.getElem_cons_succ, List.getElem_cons_zero, Act.put, List.setIfInBounds_toArray, List.set_cons_zero, List.set_cons_succ]
            refine lexH_yieldE rfl rfl ?_
            apply Exists.intro
            refine ⟨fun W hW => ?_, ?_⟩
            focus (go_simp; exact rfl)
            simp only [List.getElem_toArray, List.getElem_cons_succ, List.getElem_cons_zero, Act.put, List.setIfInBounds_toArray, List.set_cons_zero, List.set_cons_succ]
            refine lexH_yieldE rfl rfl ?_
            apply Exists.intro
            refine ⟨fun W hW => ?_, ?_⟩
            focus (go_simp; exact rfl)
            simp only [List.getElem_toArray, List.getElem_cons_succ, List.getElem_cons_zero, Act.put, List.setIfInBounds_toArray, List.set_cons_zero, List.set_cons_succ]
            refine lexH_load rfl rfl _ _ rfl rfl LC.out ?_
            simp only [List.getElem_toArray, List.getElem_cons_succ, List.getElem_cons_zero, Act.put, List.setIfInBounds_toArray, List.set_cons_zero, List.set_cons_succ]
            refine lexH_yieldE rfl rfl ?_
            apply Exists.intro
            refine ⟨fun W hW => ?_, ?_⟩
            focus (go_simp; exact rfl)
            simp only [List.getElem_toArray, List.getElem_cons_succ, List.getElem_cons_zero, Act.put, List.setIfInBounds_toArray, List.set_cons_zero, List.set_cons_succ]
            refine lexH_last rfl rfl ?_
            have hcl : (Builtin.clear_ #[49] 0 #[fromV d 1 32 3 M.length]).run Try.prog (wC.setCell ⟨d, 0, none⟩ (.int .i64 M.length)).drew = .ok (.tuple #[]) wE := HCL.out
            unfold Oper.wp
            go_simp
            go_wp2_with (fail)
            go_ret
            unfold TurnP
            rw [if_neg hM, if_neg hM]
            exact ⟨rfl, HAE.out, HOE.out⟩
end
end Go.Proofs.Ythnkbipdlepbaaa
