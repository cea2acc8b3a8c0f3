/-
  The walk of SlotsApart, for whatever slots.
-/
import Derived.Test.YtenfeamohcclaaaSlApP
import Derived.Test.YtenfeamohcclaaaAppAt
import Derived.Test.YtenfeamohcclaaaLexApp
import Derived.Test.YtenfeamohcclaaaArr
import Derived.Deep.DeepCutAuto
import Derived.Deep.CutBlock
namespace Go.Proofs.Ytenfeamohcclaaa
open Go.RowKit Go.Shelf Go
attribute [local go_sem] Oper.semAt_some

theorem infoOpS : (Try.prog.info? 33).map (fun i => (i.zero, i.size, i.bytes)) = some (some (.agg #[.int .i64 0, .int .i64 0, .int .i64 0, .int .i64 0]), 4, 32) := by kernel_rfl
theorem infoOpS4 : (Try.prog.info? 33).map (·.size) = some 4 := by kernel_rfl
theorem sizeOpS (w : World) : (sizeOf 33).run Try.prog w = .ok 4 w := by kernel_rfl
theorem store_ops (w : World) (Z : Array Value) (hz : Z.size = 4) (o : OpA) :
    (storeVar 33 ⟨w.heap.size, 0, none⟩ (.agg #[.int .i64 o.kind, .int .i64 o.slot, .int .i64 o.pid, .int .i64 o.page])).run Try.prog (w.alloc (.cells Z 33)) = .ok () (w.alloc (.cells #[.int .i64 o.kind, .int .i64 o.slot, .int .i64 o.pid, .int .i64 o.page] 33)) :=
  run_storeVar_new (P := Try.prog) w 33 Z _ infoOpS4 hz (by simp [Value.oneCell'])
theorem ops_row (w : World) (x : OpA) (t : TypeId) : RowAt (w.alloc (.cells #[.int .i64 x.kind, .int .i64 x.slot, .int .i64 x.pid, .int .i64 x.page] t)) w.heap.size 4 (opV x) :=
  RowAt.new w _ _ _ _ fun i hi => by
    rcases (show i = 0 ∨ i = 1 ∨ i = 2 ∨ i = 3 by omega) with rfl | rfl | rfl | rfl <;> rfl
theorem cellsO_len (o : OpA) : o.cells.length = 4 := rfl
theorem cellsO_one (o : OpA) : ∀ u ∈ o.cells, u.oneCell' = true := by
  intro u h
  simp [OpA.cells] at h
  rcases h with rfl | rfl | rfl | rfl <;> rfl
theorem fourO_one (a b c d : Int) : ∀ u, u ∈ (#[Value.int .i64 a, .int .i64 b, .int .i64 c, .int .i64 d] : Array Value).toList → u.oneCell' = true := by
  intro u h
  simp at h
  rcases h with rfl | rfl | rfl | rfl <;> rfl
theorem smodD (x n : Int) (h1 : 1 ≤ n) (h2 : n ≤ 1024) : ∃ k : Nat, (k : Int) < n ∧ wrap64 ((IntKind.u64.wrap x).tmod n) = k := by
  have h0 : 0 ≤ IntKind.u64.wrap x := by rw [IntKind.wrap_u64]; omega
  have e1 : (IntKind.u64.wrap x).tmod n = (IntKind.u64.wrap x) % n := Int.tmod_eq_emod_of_nonneg h0
  have l1 := Int.emod_lt_of_pos (IntKind.u64.wrap x) (show 0 < n by omega)
  have l2 := Int.emod_nonneg (IntKind.u64.wrap x) (show n ≠ 0 by omega)
  refine ⟨((IntKind.u64.wrap x) % n).toNat, by omega, ?_⟩
  rw [e1, IntWalk.wrap64_in _ ⟨by omega, by omega⟩]
  omega
/-- The list, beside the slots. -/
structure ApAt (IsS : Thg → Nat → Nat → (Nat → Ownr) → Prop) (w : World) (d N : Nat) (f : Nat → Ownr) (M : List OpA) (v : Value) (W : World) : Prop where
  kp : KPT (fun X => IsS X d N f) w (fun k => v.ownBlock = some k) W
  ai : ApI f N M
  row : W.ownsRow w.heap.size 33 4 v M.length (recV OpA.cells M)
theorem ApAt.later {IsS : Thg → Nat → Nat → (Nat → Ownr) → Prop} {w W W' : World} {d N : Nat} {f : Nat → Ownr} {M : List OpA} {v : Value} (h : ApAt IsS w d N f M v W) (hb : Below W.heap.size W W') : ApAt IsS w d N f M v W' :=
  ⟨h.kp.later hb, h.ai, owns_later h.row hb⟩
/-- One of the list, read. -/
theorem ApAt.at {IsS : Thg → Nat → Nat → (Nat → Ownr) → Prop} {w W : World} {d N lc : Nat} {f : Nat → Ownr} {M : List OpA} {la : Option Addr} (h : ApAt IsS w d N f M (.slice la M.length lc) W) (j : Nat) (hj : j < M.length) :
    ∃ g, la = some ⟨g, 0, none⟩ ∧ W.cell? ⟨g, j * 4 + 1, none⟩ = some (.int .i64 (M[j]'hj).slot) ∧ W.cell? ⟨g, j * 4 + 2, none⟩ = some (.int .i64 (M[j]'hj).pid) ∧ W.cell? ⟨g, j * 4 + 3, none⟩ = some (.int .i64 (M[j]'hj).page) := by
  obtain ⟨a, cap, e, hR⟩ := RecsAt.of_owns h.row
  injection e with e1 _ _
  subst e1
  obtain ⟨g, rfl, _, _, hr⟩ := hR.get cellsO_len j hj
  exact ⟨g, rfl, hr 1 _ rfl, hr 2 _ rfl, hr 3 _ rfl⟩
theorem owns_part {W : World} {B lc : Nat} {M : List OpA} {la : Option Addr} (h : W.ownsRow B 33 4 (.slice la M.length lc) M.length (recV OpA.cells M)) (hk : 0 < M.length) :
    ∃ g, la = some ⟨g, 0, none⟩ ∧ M.length ≤ lc ∧ ∀ j u, (recV OpA.cells M)[j]? = some u → W.cell? ⟨g, j, none⟩ = some u := by
  obtain ⟨hl, ⟨_, h0⟩ | ⟨g, cap, cur, e, _, hh, hnc, _, _, ht⟩⟩ := h
  · omega
  · injection e with e1 _ e3
    subst e1; subst e3
    refine ⟨g, rfl, hnc, fun j u hj => ?_⟩
    have hlt := (List.getElem?_eq_some_iff.1 hj).1
    rw [hl] at hlt
    rw [cell_of_row _ _ _ _ _ _ hh, ← hj, ← ht, List.getElem?_take_of_lt hlt]
    simp
theorem own_sliceO {w : World} {B : Nat} {v : Value} {M : List OpA} (h : w.ownsRow B 33 4 v M.length (recV OpA.cells M)) : ∃ la lc, v = .slice la M.length lc := by
  obtain ⟨a, cap, rfl, _⟩ := RecsAt.of_owns h
  exact ⟨a, cap, rfl⟩
section
variable {IsS : Thg → Nat → Nat → (Nat → Ownr) → Prop} (ok : SlOk IsS)
include ok
set_option maxRecDepth 100000 in
set_option maxHeartbeats 16000000 in
theorem lawSApart_any (n0 : Int) (a : Option Addr) (len cap : Nat) (O : Nat → OpA) (w : World) (hI : InZ n0) (hO : OpsAt w a len O) :
    Calls Try.prog 4 #[.int .i64 n0, .slice a len cap] w fun e w' => e = .returned (.bool true) ∧ Below w.heap.size w w' := by
  have HO := Lib.hid hO
  clear hO
  obtain ⟨i0, hi, hz0, hz1, hz2⟩ := info_parts infoOpS
  by_cases hin : len ≤ 200
  · have hlI : ¬ (200 : Int) < len := by omega
    have hd2 : decide (200 < len) = false := decide_eq_false (by omega)
    have hd1 : decide ((200 : Int) < (len : Int)) = false := decide_eq_false hlI
    obtain ⟨N, hN⟩ : ∃ N, capN n0 = N := ⟨_, rfl⟩
    have HN := Lib.hid (show N ≤ 1024 from by rw [← hN]; exact capN_le _)
    go_enter Try.func4, Try.ntmps4
    go_wp2_with (fail)
    refine (new_sl ok w n0 hI hN).mono ?_
    rintro e w1 ⟨d, rfl, hK⟩
    have HA1 := Lib.hid (show ApAt IsS w d N (fun _ => (0, 0)) [] (.slice none 0 0) w1 from ⟨hK.add (Below.refl _ _) (fun k hk => by cases hk), ApI.new N, World.ownsRow_nil _ _ _ _⟩)
    clear hK hd1 hd2 hN
    go_wp2_with (fail)
    go_loopw [6, 25] (fun vv iv wr => ∃ (k : Nat) (f : Nat → Ownr) (M : List OpA) (la : Option Addr) (lc : Nat), iv = .int .i64 k ∧ vv = .slice la M.length lc ∧ k ≤ len ∧ M.length ≤ k ∧ Hid (ApAt IsS w d N f M (.slice la M.length lc) wr)) (fun _ iv _ => len - (intOf iv).toNat)
    case atStart => exact ⟨0, _, [], none, 0, rfl, rfl, Nat.zero_le _, Nat.le_refl _, HA1⟩
    case round =>
      clear HA1
      obtain ⟨k, f, M, la, lc, rfl, rfl, hk, hMk, HA⟩ := hrel
      by_cases hlk : k < len
      · have hkI : (k : Int) < len := by omega
        obtain ⟨gi, oi, rfl, _, hok, hcI⟩ := HO.out.one k hlk
        obtain ⟨a0, a1, a2, a3⟩ := hcI wr HA.out.kp.bel
        clear hcI
        generalize O k = op at a0 a1 a2 a3 hok
        have HST := Lib.hid (store_ops wr #[.int .i64 0, .int .i64 0, .int .i64 0, .int .i64 0] rfl op)
        have HRW := Lib.hid (ops_row wr op 33)
        have hbw := (Below.refl wr.heap.size wr).alloc (Nat.le_refl _) (.cells #[.int .i64 op.kind, .int .i64 op.slot, .int .i64 op.pid, .int .i64 op.page] 33)
        have HAW := Lib.hid (HA.out.later hbw)
        have HOB := Lib.hid (show ∀ k, (Value.slice la M.length lc).ownBlock = some k → k < wr.heap.size ∧ k ≠ wr.heap.size from fun k hk => ⟨(HA.out.row.lt k hk).2, by have := (HA.out.row.lt k hk).2; omega⟩)
        have HKW := Lib.hid (HA.out.kp.add (Q := fun k => (Value.slice la M.length lc).ownBlock = some k ∨ k = wr.heap.size) hbw (fun k hk => hk.imp id (fun h => ⟨Nat.le_of_eq h.symm, by rw [h]; simp⟩)))
        have HWB := Lib.hid HA.out.kp.bel.size
        obtain ⟨kind, slot, pid, page⟩ := op
        dsimp only at a0 a1 a2 a3 hok HST HRW HAW HKW
        clear HA hbw
        have hMl : M.length ≤ 200 := by omega
        go_upto_region 9 with (refine wpList_store_run rfl 33 _ _ rfl wr.heap.size _ _ rfl rfl HST.out ?_)
        clear a0 a1 a2 a3 HST
        generalize wr.alloc (.cells #[.int .i64 kind, .int .i64 slot, .int .i64 pid, .int .i64 page] 33) = W1 at *
        generalize wr.heap.size = ob at *
        have b0 : W1.cell? ⟨ob, 0, none⟩ = some (.int .i64 kind) := HRW.out.cell 0 (by decide)
        have b1 : W1.cell? ⟨ob, 1, none⟩ = some (.int .i64 slot) := HRW.out.cell 1 (by decide)
        have b2 : W1.cell? ⟨ob, 2, none⟩ = some (.int .i64 pid) := HRW.out.cell 2 (by decide)
        have b3 : W1.cell? ⟨ob, 3, none⟩ = some (.int .i64 page) := HRW.out.cell 3 (by decide)
        have b4 := HRW.out.frozen 1
        by_cases hway : kind = 1 ∧ 0 < M.length
        · as_aux_lemma =>
            obtain ⟨hkd, hop⟩ := hway
            subst hkd
            obtain ⟨h, hh1, hh2⟩ := smodD slot (M.length : Int) (by omega) (by omega)
            have hhl : h < M.length := by omega
            have hlu : IntKind.u64.wrap (M.length : Int) = M.length := by rw [IntKind.wrap_u64]; omega
            have hl0 : ¬ (M.length : Int) = 0 := by omega
            have hlb : ((M.length : Int) == 0) = false := by rw [beq_eq_false_iff_ne]; omega
            have hl0n : ¬ M.length = 0 := by omega
            have hlbn : (M.length == 0) = false := by rw [beq_eq_false_iff_ne]; omega
            go_upto_region 17 with (fail)
            rw [hh2]
            clear hh2 hlu hl0 hlb hl0n hlbn b0 b1 b2 b3 b4
            obtain ⟨s, hs1, hs2, hs3, hs4⟩ := HAW.out.ai.own _ (List.getElem_mem hhl)
            obtain ⟨_, e1, e2, e3, e4, hai⟩ := HAW.out.ai.cut hhl hs1
            have HAI := Lib.hid hai
            obtain ⟨g, rfl, q1, q2, q3⟩ := HAW.out.at h hhl
            rw [hs1] at q1
            have hhI : (h : Int) < (M.length : Int) := by omega
            have HF1 := Lib.hid (show Calls Try.prog 14 #[.pointer (some ⟨d, 0, none⟩), .int .i64 s] W1 _ from free_sl ok HAW.out.kp (s : Int) ⟨by omega, by have := HN.out; omega⟩ 0 _ e1 e2)
            have HF2 := Lib.hid (show ∀ W, KPT (fun X => IsS X d N (updO f s (0, 0))) w (fun k => (Value.slice (some ⟨g, 0, none⟩) M.length lc).ownBlock = some k) W → Calls Try.prog 14 #[.pointer (some ⟨d, 0, none⟩), .int .i64 s] W _ from fun W hW => free_sl ok hW (s : Int) ⟨by omega, by have := HN.out; omega⟩ 7 _ e3 e4)
            have HROW := Lib.hid HAW.out.row
            have HAT := Lib.hid (show ∀ W : World, W.ownsRow w.heap.size 33 4 (.slice (some ⟨g, 0, none⟩) M.length lc) M.length (recV OpA.cells M) → W.cell? ⟨g, h * 4 + 1, none⟩ = some (.int .i64 s) from fun W hW => by
              obtain ⟨aa, cap, e, hR⟩ := RecsAt.of_owns hW
              injection e with e1 _ _
              subst e1
              obtain ⟨g2, e5, _, _, hr⟩ := hR.get cellsO_len h hhl
              injection e5 with e5
              injection e5 with e5
              subst e5
              have := hr 1 _ rfl
              rw [hs1] at this
              exact this)
            have HAIo := Lib.hid HAW.out.ai
            clear hs1 hs2 hs3 hs4 e1 e2 e3 e4 hai q2 q3 HKW HAW HRW
            go_wp2_with (fail)
            refine HF1.out.mono ?_
            rintro e W5 ⟨rfl, hk5, ho5⟩
            have HK5 := Lib.hid hk5
            have HR5 := Lib.hid (owns_only HROW.out ho5 (fun k hk h => h hk))
            clear hk5 ho5 HF1 q1 HROW
            have q1 := HAT.out W5 HR5.out
            go_wp2_with (fail)
            refine (HF2.out W5 HK5.out).mono ?_
            rintro e W6 ⟨rfl, hk6, ho6⟩
            have HR6 := owns_only HR5.out ho6 (fun k hk h => h hk)
            generalize hf2 : updO f s (0, 0) = f2 at *
            have HA6 := Lib.hid (show ∃ _ : True, KPT (fun X => IsS X d N f2) w (fun k => (Value.slice (some ⟨g, 0, none⟩) M.length lc).ownBlock = some k) W6 ∧ W6.ownsRow w.heap.size 33 4 (.slice (some ⟨g, 0, none⟩) M.length lc) M.length (recV OpA.cells M) from ⟨trivial, hk6, HR6⟩)
            clear hk6 ho6 HR6 HK5 HR5 HF2 q1 HAT hf2
            go_wp2_with (fail)
            obtain ⟨g', eg, hnc, hcell⟩ := owns_part HA6.out.choose_spec.2 (by omega)
            have eg : g = g' := by injection eg with eg; injection eg
            subst eg
            have HCE := Lib.hid hcell
            have S1 := Lib.hid (fun W (_ : Kept W6.heap.size W6 W) => run_sub_to (P := Try.prog) Try.underlying22 sizeOpS g 0 M.length lc h (by omega) W)
            obtain ⟨A2, hA2, hS2⟩ : ∃ A2 : Addr, (0 < M.length - (h + 1) → A2 = ⟨g, (h + 1) * 4, none⟩) ∧ ∀ W, Kept W6.heap.size W6 W → (Instr.sliceAt 22 (.slice (some ⟨g, 0, none⟩) M.length lc) (some (.int .i64 ((h : Int) + 1))) none none).run Try.prog W = .ok (.slice (some A2) (M.length - (h + 1)) (lc - (h + 1))) W :=
              ⟨_, fun h => by rw [if_neg (by omega), Nat.zero_add], fun W _ => run_sub_from (P := Try.prog) Try.underlying22 sizeOpS g 0 M.length lc (h + 1) (by omega) W⟩
            have S2 := Lib.hid hS2
            have HA2 := Lib.hid hA2
            clear hS2 hA2 hcell eg
            refine wp_region_lex (Kept W6.heap.size W6) [(1, false), (2, false), (3, false), (5, false), (6, false), (7, false), (8, false), (0, true), (4, true), (9, true), (10, false)]
              (by kernel_rfl) (by kernel_rfl) rfl (by kernel_rfl) ⟨rfl, rfl, rfl, Nat.le_refl _, fun _ _ => rfl⟩ ?_
            intro W0 hK0
            refine lexH_yieldE rfl rfl ?_
            apply Exists.intro
            refine ⟨fun W hW => ?_, ?_⟩
            focus (go_simp; exact rfl)
            simp only [List.getElem_toArray, List.getElem_cons_succ, List.getElem_cons_zero, Act.put, List.setIfInBounds_toArray, List.set_cons_zero, List.set_cons_succ]
            refine lexH_yieldE rfl rfl ?_
            apply Exists.intro
            refine ⟨fun W hW => ?_, ?_⟩
            focus (go_simp; exact rfl)
            simp only [List.getElem_toArray, List.getElem_cons_succ, List.getElem_cons_zero, Act.put, List.setIfInBounds_toArray, List.set_cons_zero, List.set_cons_succ]
            refine lexH_slice rfl rfl _ _ _ _ _ rfl S1.out ?_
            simp only [List.getElem_toArray, List.getElem_cons_succ, List.getElem_cons_zero, Act.put, List.setIfInBounds_toArray, List.set_cons_zero, List.set_cons_succ]
            refine lexH_yieldE rfl rfl ?_
            apply Exists.intro
            refine ⟨fun W hW => ?_, ?_⟩
            focus (go_simp; exact rfl)
            simp only [List.getElem_toArray, List.getElem_cons_succ, List.getElem_cons_zero, Act.put, List.setIfInBounds_toArray, List.set_cons_zero, List.set_cons_succ]
            refine lexH_yieldE rfl rfl ?_
            apply Exists.intro
            refine ⟨fun W hW => ?_, ?_⟩
            focus (go_simp; exact rfl)
            simp only [List.getElem_toArray, List.getElem_cons_succ, List.getElem_cons_zero, Act.put, List.setIfInBounds_toArray, List.set_cons_zero, List.set_cons_succ]
            refine lexH_yieldE rfl rfl ?_
            apply Exists.intro
            refine ⟨fun W hW => ?_, ?_⟩
            focus (go_simp; exact rfl)
            simp only [List.getElem_toArray, List.getElem_cons_succ, List.getElem_cons_zero, Act.put, List.setIfInBounds_toArray, List.set_cons_zero, List.set_cons_succ]
            rw [show IntKind.i64.wrap ((h : Int) + 1) = (h : Int) + 1 by rw [IntKind.wrap_i64]; omega]
            refine lexH_slice rfl rfl _ _ _ _ _ rfl S2.out ?_
            simp only [List.getElem_toArray, List.getElem_cons_succ, List.getElem_cons_zero, Act.put, List.setIfInBounds_toArray, List.set_cons_zero, List.set_cons_succ]
            refine lexH_eff rfl rfl ?_
            unfold Oper.wp
            go_simp
            have HK1 := Lib.hid (hK0.below.alloc hK0.below.size (.cells #[] 33))
            have HO1 := Lib.hid (World.ownsRow_made W0 (e := 33) (base := W6.heap.size) (size := 4) #[] 0 hK0.below.size (Nat.zero_le _) (by simp))
            refine ⟨HK1.out, ?_⟩
            clear hK0
            generalize W0.alloc (.cells #[] 33) = Wa at HK1 HO1 ⊢
            generalize W0.heap.size = ba at HO1 ⊢
            refine lexH_append_src _ rfl rfl _ _ 22 rfl W6.heap.size 33 i0 _ 4 32 Try.underlying22 hi hz0 hz1 hz2 rfl (by decide) _ _ _ HO1.out HK1.out.size (some ⟨g, 0, none⟩) h lc (recV OpA.cells (M.take h)) rfl rfl ?q1 ?q2 (recV_one cellsO_one _) ?q3 (by decide) ?_
            case q1 => rw [recV_len cellsO_len, List.length_take, Nat.min_eq_left (by omega)]
            case q2 =>
              refine fun _ => ⟨_, rfl, fun j u hj => ?_⟩
              have hj2 : j < h * 4 := by
                have := (List.getElem?_eq_some_iff.1 hj).1
                rw [recV_len cellsO_len, List.length_take, Nat.min_eq_left (by omega)] at this
                exact this
              rw [← recV_take cellsO_len, List.getElem?_take_of_lt hj2] at hj
              have hc := HCE.out j u hj
              rw [Addr.add_lit, Nat.zero_add, HK1.out.cell (World.block_lt_of_cell? _ _ hc)]
              exact hc
            case q3 => omega
            intro v2 W2 hown2 ho2 _
            have HO2 := Lib.hid hown2
            have HK2 := Lib.hid (ho2.below HK1.out HK1.out.size (fun j hj => (HO1.out.lt j hj).1))
            refine ⟨HK2.out, ?_⟩
            clear hown2 ho2 HO1 HK1
            simp only [List.getElem_toArray, List.getElem_cons_succ, List.getElem_cons_zero, Act.put, List.setIfInBounds_toArray, List.set_cons_zero, List.set_cons_succ]
            refine lexH_append_src _ rfl rfl _ _ 22 rfl W6.heap.size 33 i0 _ 4 32 Try.underlying22 hi hz0 hz1 hz2 rfl (by decide) _ _ _ HO2.out HK2.out.size (some A2) (M.length - (h + 1)) (lc - (h + 1)) (recV OpA.cells (M.drop (h + 1))) rfl rfl ?q4 ?q5 (recV_one cellsO_one _) ?q6 (by decide) ?_
            case q4 => rw [recV_len cellsO_len, List.length_drop]
            case q5 =>
              refine fun hp => ⟨_, rfl, fun j u hj => ?_⟩
              rw [← recV_drop cellsO_len, List.getElem?_drop] at hj
              have hc := HCE.out _ u hj
              rw [HA2.out hp, Addr.add_lit, HK2.out.cell (World.block_lt_of_cell? _ _ hc)]
              exact hc
            case q6 => omega
            intro v3 W3 hown3 ho3 _
            have HK3 := Lib.hid (ho3.below HK2.out HK2.out.size (fun j hj => (HO2.out.lt j hj).1))
            have hlen : (M.eraseIdx h).length = 0 + h + (M.length - (h + 1)) := by
              rw [List.length_eraseIdx_of_lt hhl]; omega
            have hO3 : W3.ownsRow W6.heap.size 33 4 v3 (M.eraseIdx h).length (recV OpA.cells (M.eraseIdx h)) := by
              rw [hlen, List.eraseIdx_eq_take_drop_succ, recV_append]; simpa using hown3
            have HLN := Lib.hid (show (M.eraseIdx h).length + 1 = M.length by rw [hlen]; omega)
            clear hlen
            have HT := Lib.hid (show ApAt IsS w d N f2 (M.eraseIdx h) v3 W3 from
              ⟨HA6.out.choose_spec.1.add (Q := fun k => v3.ownBlock = some k) HK3.out (fun k hk => .inr ⟨(hO3.lt k hk).1, (hO3.lt k hk).2⟩), HAI.out, owns_base hO3 (fun k hk => Nat.le_trans HA6.out.choose_spec.1.bel.size (hO3.lt k hk).1)⟩)
            obtain ⟨la2, lc2, hv3⟩ := own_sliceO hO3
            subst hv3
            refine ⟨HK3.out, ?_⟩
            clear hO3 hown3 ho3 HO2 HK2 HK3 HA6 S1 S2 HA2 HCE HAI
            generalize M.eraseIdx h = M2 at *
            simp only [List.getElem_toArray, List.getElem_cons_succ, List.getElem_cons_zero, Act.put, List.setIfInBounds_toArray, List.set_cons_zero, List.set_cons_succ]
            refine lexH_yieldE rfl rfl ?_
            apply Exists.intro
            refine ⟨fun W hW => ?_, ?_⟩
            focus (go_simp; exact rfl)
            simp only [List.getElem_toArray, List.getElem_cons_succ, List.getElem_cons_zero, Act.put, List.setIfInBounds_toArray, List.set_cons_zero, List.set_cons_succ]
            refine lexH_nil ?_
            have hM2 : M2.length ≤ k + 1 := by have := HLN.out; omega
            go_wp2_with (fail)
            have hM2b : M2.length ≤ 201 := by omega
            have hMN : M2.length ≤ 1024 := by omega
            refine (used_sl ok HT.out.kp M2.length HT.out.ai.len.symm).mono ?_
            rintro e W6 ⟨rfl, hb⟩
            have HT6 := Lib.hid (HT.out.later hb)
            clear hb HT
            go_wp2_with (fail)
            go_loopw [109] (fun iv wx => ∃ j : Nat, iv = .int .i64 j ∧ j ≤ M2.length ∧ Hid (ApAt IsS w d N f2 M2 (.slice la2 M2.length lc2) wx)) (fun iv _ => M2.length - (intOf iv).toNat)
            case atStart => exact ⟨0, rfl, Nat.zero_le _, HT6⟩
            case round =>
              clear HT6
              rename World => wx
              obtain ⟨j, rfl, hj, HT⟩ := hrel
              by_cases hlj : j < M2.length
              · have hjI : (j : Int) < M2.length := by omega
                obtain ⟨g, rfl, q1, q2, q3⟩ := HT.out.at j hlj
                obtain ⟨s, hs1, hs2, hs3, hs4⟩ := HT.out.ai.own _ (List.getElem_mem hlj)
                obtain ⟨P, hP⟩ : ∃ P : Nat, (M2[j]'hlj).pid = P := ⟨(M2[j]'hlj).pid.toNat, by have := hs3.1; omega⟩
                obtain ⟨Q, hQ⟩ : ∃ Q : Nat, (M2[j]'hlj).page = Q := ⟨(M2[j]'hlj).page.toNat, by have := hs3.2.2.1; omega⟩
                have hP1 : P ≠ 0 := by have := hs3.1; omega
                have HNE := Lib.hid (show ∀ b (hb : b < j), (M2[b]'(Nat.lt_trans hb hlj)).slot ≠ (s : Int) from fun b hb h => HT.out.ai.ne hlj hb (by rw [hs1, h]))
                rw [hs1] at q1
                rw [hP] at q2 hs4
                rw [hQ] at q3 hs4
                rw [Int.toNat_natCast, Int.toNat_natCast] at hs4
                have HOW := Lib.hid (owner_sl ok HT.out.kp (s : Int) ⟨by omega, by have := HN.out; omega⟩ P Q true (by unfold rgO; rw [if_pos ⟨by omega, by omega⟩, Int.toNat_natCast]; exact hs4) (decide_eq_true hP1))
                have HAT := Lib.hid (show ∀ W, ApAt IsS w d N f2 M2 (.slice (some ⟨g, 0, none⟩) M2.length lc2) W → W.cell? ⟨g, j * 4 + 1, none⟩ = some (.int .i64 s) ∧ W.cell? ⟨g, j * 4 + 2, none⟩ = some (.int .i64 P) ∧ W.cell? ⟨g, j * 4 + 3, none⟩ = some (.int .i64 Q) from fun W hW => by
                  obtain ⟨g', eg, r1, r2, r3⟩ := hW.at j hlj
                  injection eg with eg
                  injection eg with eg
                  subst eg
                  rw [hs1] at r1
                  rw [hP] at r2
                  rw [hQ] at r3
                  exact ⟨r1, r2, r3⟩)
                clear hs1 hs2 hs3 hs4 hP hQ hP1
                go_wp2_with (fail)
                refine HOW.out.mono ?_
                rintro e W7 ⟨rfl, hb⟩
                have HT7 := Lib.hid (HT.out.later hb)
                clear hb HT HOW q1 q2 q3
                obtain ⟨q1, q2, q3⟩ := HAT.out W7 HT7.out
                go_wp2_with (fail)
                clear q1 q2 q3
                go_loopw [144] (fun iv wy => ∃ b : Nat, iv = .int .i64 b ∧ b ≤ j ∧ Hid (ApAt IsS w d N f2 M2 (.slice (some ⟨g, 0, none⟩) M2.length lc2) wy)) (fun iv _ => j - (intOf iv).toNat)
                case atStart => exact ⟨0, rfl, Nat.zero_le _, HT7⟩
                case round =>
                  clear HT7
                  rename World => wy
                  obtain ⟨b, rfl, hbj, HT⟩ := hrel
                  by_cases hlb : b < j
                  · have hbI : (b : Int) < j := by omega
                    have hbI2 : (b : Int) < M2.length := by omega
                    obtain ⟨q1, _, _⟩ := HAT.out wy HT.out
                    obtain ⟨g', eg, r1, _, _⟩ := HT.out.at b (by omega)
                    injection eg with eg
                    injection eg with eg
                    subst eg
                    have hne := HNE.out b hlb
                    obtain ⟨z, hz⟩ : ∃ z, (M2[b]'(Nat.lt_trans hlb hlj)).slot = z := ⟨_, rfl⟩
                    rw [hz] at r1 hne
                    have hnb : ((s : Int) == z) = false := by simp; omega
                    have hnb2 : ¬ (s : Int) = z := fun h => hne h.symm
                    clear hz hne
                    go_wp2_with (fail)
                    go_quiet (fail)
                    have HT8 := Lib.hid (HT.out.later (below_drewN (Below.refl wy.heap.size wy) nq))
                    go_wp2_with (fail)
                    go_roundw
                    case rel => exact ⟨b + 1, by go_num, hlb, HT8⟩
                    case measure => simp [intOf]; omega
                  · obtain rfl : b = j := by omega
                    go_wp2_with (fail)
                    go_roundw
                    case rel => exact ⟨b + 1, by go_num, hlj, HT⟩
                    case measure => simp [intOf]; omega
              · obtain rfl : j = M2.length := by omega
                go_wp2_with (fail)
                go_roundw
                case rel => exact ⟨k + 1, f2, M2, la2, lc2, by go_num, rfl, hlk, hM2, HT⟩
                case measure => simp [intOf]; omega
        · rcases (show (¬ kind = 1) ∨ (kind = 1 ∧ M.length = 0) by omega) with hy3 | ⟨hy3, ho0⟩
          · have hkb : (kind == 1) = false := by simp; exact hy3
            as_aux_lemma =>
              clear hway
              have HTK := Lib.hid (show ∀ x c g, stK f N pid page = x → stE f N pid page = c → stF f N pid page = g → Calls Try.prog 12 #[.pointer (some ⟨d, 0, none⟩), .int .i64 pid, .int .i64 page] W1 fun e w' => e = .returned (.tuple #[.int .i64 x, .int .i64 c]) ∧ KPT (fun X => IsS X d N g) w (fun k => (Value.slice la M.length lc).ownBlock = some k ∨ k = ob) w' ∧ Only (fun k => ¬ ((Value.slice la M.length lc).ownBlock = some k ∨ k = ob)) W1 w' from
                fun x c g h1 h2 h3 => take_sl ok HKW.out pid page hok.2.1 hok.2.2 x c g h1 h2 h3)
              clear HKW
              by_cases hp : PgOk pid page
              · cases hl : leastF f N with
                | none =>
                  obtain ⟨t1, t2, t3⟩ := stk_full hp hl
                  have hMN := HAW.out.ai.full hl
                  subst hMN
                  have HC := Lib.hid (HTK.out _ _ _ t1 t2 t3)
                  clear t1 t2 t3 hp hl HTK
                  go_wp2_with (fail)
                  clear b0
                  refine HC.out.mono ?_
                  rintro e W4 ⟨rfl, hk4, ho⟩
                  have HA4 := Lib.hid (show ApAt IsS w d _ f M (.slice la M.length lc) W4 from ⟨hk4.add (Below.refl _ _) (fun k h => .inl (.inl h)), HAW.out.ai, owns_only HAW.out.row ho (fun k hk h => h (.inl hk))⟩)
                  clear hk4 ho HC HAW HRW b1 b2 b3 b4
                  go_wp2_with (fail)
                  refine (len_sl ok HA4.out.kp).mono ?_
                  rintro e W5 ⟨rfl, hb⟩
                  have HA5 := Lib.hid (HA4.out.later hb)
                  clear hb HA4
                  have HA4 := HA5
                  go_wp2_with (fail)
                  go_roundw
                  case rel => exact ⟨k + 1, f, M, la, lc, by go_num, rfl, hlk, by omega, HA4⟩
                  case measure => simp [intOf]; omega
                | some i =>
                  obtain ⟨t1, t2, t3⟩ := stk_one hp hl
                  have HC := Lib.hid (HTK.out _ _ _ t1 t2 t3)
                  have HAI := Lib.hid (HAW.out.ai.take hl hp kind)
                  have hiN := (leastF_some hl).1
                  clear t1 t2 t3 hp hl HTK
                  go_wp2_with (fail)
                  clear b0
                  refine HC.out.mono ?_
                  rintro e W4 ⟨rfl, hk4, ho⟩
                  have HK4 := Lib.hid hk4
                  have HR4 := Lib.hid (HRW.out.only ho (fun h => h (.inr rfl)))
                  have HOW4 := Lib.hid (owns_only HAW.out.row ho (fun k hk h => h (.inl hk)))
                  clear hk4 ho HC HAW HRW b1 b2 b3 b4
                  have c1 : W4.cell? ⟨ob, 1, none⟩ = some (.int .i64 slot) := HR4.out.cell 1 (by decide)
                  have c4 := HR4.out.frozen 1
                  have ho5 := Only.setCell (S := fun k => k = ob) W4 ⟨ob, 1, none⟩ rfl (.int .i64 i)
                  have HK5 := Lib.hid (HK4.out.own ho5 (fun k hk => .inr hk) (fun k hk => by rw [hk]; exact HWB.out))
                  have HR5 := Lib.hid (HR4.out.setCell 1 (.int .i64 i))
                  have HOW5 := Lib.hid (owns_only HOW4.out ho5 (fun k hk h => (HOB.out k hk).2 h))
                  clear ho5 HK4 HR4 HOW4
                  go_upto_region 15 with (fail)
                  clear c1 c4
                  generalize W4.setCell ⟨ob, 1, none⟩ (.int .i64 i) = W5 at *
                  have c0 : W5.cell? ⟨ob, 0, none⟩ = some (.int .i64 kind) := HR5.out.cell 0 (by decide)
                  have c1 : W5.cell? ⟨ob, 1, none⟩ = some (.int .i64 i) := HR5.out.cell 1 (by decide)
                  have c2 : W5.cell? ⟨ob, 2, none⟩ = some (.int .i64 pid) := HR5.out.cell 2 (by decide)
                  have c3 : W5.cell? ⟨ob, 3, none⟩ = some (.int .i64 page) := HR5.out.cell 3 (by decide)
                  go_wp2_with (first | (at_builtin; refine wpList_append_where W5 rfl _ _ 22 rfl w.heap.size 33 i0 _ 4 32 Try.underlying22 hi hz0 hz1 hz2 rfl (by decide) _ _ _ #[.int .i64 kind, .int .i64 i, .int .i64 pid, .int .i64 page] HOW5.out HK5.out.bel.size rfl rfl rfl (fourO_one _ _ _ _) (by omega) (by decide) ?_; intro v' W6 hown ho6 hwh) | fail)
                  have hrow : W6.ownsRow w.heap.size 33 4 v' (M ++ [OpA.mk kind i pid page]).length (recV OpA.cells (M ++ [OpA.mk kind i pid page])) := by
                    rw [List.length_append, recV_append, recV_single]
                    exact hown
                  have HT := Lib.hid (show ApAt IsS w d N (updO f i (pid.toNat, page.toNat)) (M ++ [OpA.mk kind i pid page]) v' W6 from
                    ⟨HK5.out.more (Q := fun k => v'.ownBlock = some k) ho6 (fun k hk => .inl hk) (fun k hk => (HOW5.out.lt k hk).1) (fun k hk => by
                      rcases hwh with h | h
                      · exact .inl (.inl (by rw [← h]; exact hk))
                      · exact .inr ⟨h k hk, (hrow.lt k hk).2⟩), HAI.out, hrow⟩)
                  obtain ⟨la2, lc2, hv2⟩ := own_sliceO hrow
                  have hM2 : (M ++ [OpA.mk kind i pid page]).length ≤ k + 1 := by rw [List.length_append]; simp only [List.length_cons, List.length_nil]; omega
                  clear hown ho6 hwh hrow HK5 HR5 HOW5 HAI c0 c1 c2 c3 hiN
                  subst hv2
                  generalize (M ++ [OpA.mk kind i pid page]) = M2 at *
                  generalize updO f i (pid.toNat, page.toNat) = f2 at *
                  go_wp2_with (fail)
                  have hM2b : M2.length ≤ 201 := by omega
                  have hMN : M2.length ≤ 1024 := by omega
                  refine (used_sl ok HT.out.kp M2.length HT.out.ai.len.symm).mono ?_
                  rintro e W6 ⟨rfl, hb⟩
                  have HT6 := Lib.hid (HT.out.later hb)
                  clear hb HT
                  go_wp2_with (fail)
                  go_loopw [109] (fun iv wx => ∃ j : Nat, iv = .int .i64 j ∧ j ≤ M2.length ∧ Hid (ApAt IsS w d N f2 M2 (.slice la2 M2.length lc2) wx)) (fun iv _ => M2.length - (intOf iv).toNat)
                  case atStart => exact ⟨0, rfl, Nat.zero_le _, HT6⟩
                  case round =>
                    clear HT6
                    rename World => wx
                    obtain ⟨j, rfl, hj, HT⟩ := hrel
                    by_cases hlj : j < M2.length
                    · have hjI : (j : Int) < M2.length := by omega
                      obtain ⟨g, rfl, q1, q2, q3⟩ := HT.out.at j hlj
                      obtain ⟨s, hs1, hs2, hs3, hs4⟩ := HT.out.ai.own _ (List.getElem_mem hlj)
                      obtain ⟨P, hP⟩ : ∃ P : Nat, (M2[j]'hlj).pid = P := ⟨(M2[j]'hlj).pid.toNat, by have := hs3.1; omega⟩
                      obtain ⟨Q, hQ⟩ : ∃ Q : Nat, (M2[j]'hlj).page = Q := ⟨(M2[j]'hlj).page.toNat, by have := hs3.2.2.1; omega⟩
                      have hP1 : P ≠ 0 := by have := hs3.1; omega
                      have HNE := Lib.hid (show ∀ b (hb : b < j), (M2[b]'(Nat.lt_trans hb hlj)).slot ≠ (s : Int) from fun b hb h => HT.out.ai.ne hlj hb (by rw [hs1, h]))
                      rw [hs1] at q1
                      rw [hP] at q2 hs4
                      rw [hQ] at q3 hs4
                      rw [Int.toNat_natCast, Int.toNat_natCast] at hs4
                      have HOW := Lib.hid (owner_sl ok HT.out.kp (s : Int) ⟨by omega, by have := HN.out; omega⟩ P Q true (by unfold rgO; rw [if_pos ⟨by omega, by omega⟩, Int.toNat_natCast]; exact hs4) (decide_eq_true hP1))
                      have HAT := Lib.hid (show ∀ W, ApAt IsS w d N f2 M2 (.slice (some ⟨g, 0, none⟩) M2.length lc2) W → W.cell? ⟨g, j * 4 + 1, none⟩ = some (.int .i64 s) ∧ W.cell? ⟨g, j * 4 + 2, none⟩ = some (.int .i64 P) ∧ W.cell? ⟨g, j * 4 + 3, none⟩ = some (.int .i64 Q) from fun W hW => by
                        obtain ⟨g', eg, r1, r2, r3⟩ := hW.at j hlj
                        injection eg with eg
                        injection eg with eg
                        subst eg
                        rw [hs1] at r1
                        rw [hP] at r2
                        rw [hQ] at r3
                        exact ⟨r1, r2, r3⟩)
                      clear hs1 hs2 hs3 hs4 hP hQ hP1
                      go_wp2_with (fail)
                      refine HOW.out.mono ?_
                      rintro e W7 ⟨rfl, hb⟩
                      have HT7 := Lib.hid (HT.out.later hb)
                      clear hb HT HOW q1 q2 q3
                      obtain ⟨q1, q2, q3⟩ := HAT.out W7 HT7.out
                      go_wp2_with (fail)
                      clear q1 q2 q3
                      go_loopw [144] (fun iv wy => ∃ b : Nat, iv = .int .i64 b ∧ b ≤ j ∧ Hid (ApAt IsS w d N f2 M2 (.slice (some ⟨g, 0, none⟩) M2.length lc2) wy)) (fun iv _ => j - (intOf iv).toNat)
                      case atStart => exact ⟨0, rfl, Nat.zero_le _, HT7⟩
                      case round =>
                        clear HT7
                        rename World => wy
                        obtain ⟨b, rfl, hbj, HT⟩ := hrel
                        by_cases hlb : b < j
                        · have hbI : (b : Int) < j := by omega
                          have hbI2 : (b : Int) < M2.length := by omega
                          obtain ⟨q1, _, _⟩ := HAT.out wy HT.out
                          obtain ⟨g', eg, r1, _, _⟩ := HT.out.at b (by omega)
                          injection eg with eg
                          injection eg with eg
                          subst eg
                          have hne := HNE.out b hlb
                          obtain ⟨z, hz⟩ : ∃ z, (M2[b]'(Nat.lt_trans hlb hlj)).slot = z := ⟨_, rfl⟩
                          rw [hz] at r1 hne
                          have hnb : ((s : Int) == z) = false := by simp; omega
                          have hnb2 : ¬ (s : Int) = z := fun h => hne h.symm
                          clear hz hne
                          go_wp2_with (fail)
                          go_quiet (fail)
                          have HT8 := Lib.hid (HT.out.later (below_drewN (Below.refl wy.heap.size wy) nq))
                          go_wp2_with (fail)
                          go_roundw
                          case rel => exact ⟨b + 1, by go_num, hlb, HT8⟩
                          case measure => simp [intOf]; omega
                        · obtain rfl : b = j := by omega
                          go_wp2_with (fail)
                          go_roundw
                          case rel => exact ⟨b + 1, by go_num, hlj, HT⟩
                          case measure => simp [intOf]; omega
                    · obtain rfl : j = M2.length := by omega
                      go_wp2_with (fail)
                      go_roundw
                      case rel => exact ⟨k + 1, f2, M2, la2, lc2, by go_num, rfl, hlk, hM2, HT⟩
                      case measure => simp [intOf]; omega
              · obtain ⟨t1, t2, t3⟩ := stk_no hp (f := f) (N := N)
                have HC := Lib.hid (HTK.out _ _ _ t1 t2 t3)
                clear t1 t2 t3 hp HTK
                go_wp2_with (fail)
                clear b0
                refine HC.out.mono ?_
                rintro e W4 ⟨rfl, hk4, ho⟩
                have HA4 := Lib.hid (show ApAt IsS w d N f M (.slice la M.length lc) W4 from ⟨hk4.add (Below.refl _ _) (fun k h => .inl (.inl h)), HAW.out.ai, owns_only HAW.out.row ho (fun k hk h => h (.inl hk))⟩)
                clear hk4 ho HC HAW HRW b1 b2 b3 b4
                go_wp2_with (fail)
                go_roundw
                case rel => exact ⟨k + 1, f, M, la, lc, by go_num, rfl, hlk, by omega, HA4⟩
                case measure => simp [intOf]; omega
          · subst hy3
            obtain rfl : M = [] := List.length_eq_zero_iff.1 ho0
            as_aux_lemma =>
              clear hway
              have HTK := Lib.hid (show ∀ x c g, stK f N pid page = x → stE f N pid page = c → stF f N pid page = g → Calls Try.prog 12 #[.pointer (some ⟨d, 0, none⟩), .int .i64 pid, .int .i64 page] W1 fun e w' => e = .returned (.tuple #[.int .i64 x, .int .i64 c]) ∧ KPT (fun X => IsS X d N g) w (fun k => (Value.slice la ([] : List OpA).length lc).ownBlock = some k ∨ k = ob) w' ∧ Only (fun k => ¬ ((Value.slice la ([] : List OpA).length lc).ownBlock = some k ∨ k = ob)) W1 w' from
                fun x c g h1 h2 h3 => take_sl ok HKW.out pid page hok.2.1 hok.2.2 x c g h1 h2 h3)
              clear HKW
              by_cases hp : PgOk pid page
              · cases hl : leastF f N with
                | none =>
                  obtain ⟨t1, t2, t3⟩ := stk_full hp hl
                  have hMN := HAW.out.ai.full hl
                  subst hMN
                  have HC := Lib.hid (HTK.out _ _ _ t1 t2 t3)
                  clear t1 t2 t3 hp hl HTK
                  go_wp2_with (fail)
                  clear b0
                  refine HC.out.mono ?_
                  rintro e W4 ⟨rfl, hk4, ho⟩
                  have HA4 := Lib.hid (show ApAt IsS w d _ f ([] : List OpA) (.slice la ([] : List OpA).length lc) W4 from ⟨hk4.add (Below.refl _ _) (fun k h => .inl (.inl h)), HAW.out.ai, owns_only HAW.out.row ho (fun k hk h => h (.inl hk))⟩)
                  clear hk4 ho HC HAW HRW b1 b2 b3 b4
                  go_wp2_with (fail)
                  refine (len_sl ok HA4.out.kp).mono ?_
                  rintro e W5 ⟨rfl, hb⟩
                  have HA5 := Lib.hid (HA4.out.later hb)
                  clear hb HA4
                  have HA4 := HA5
                  go_wp2_with (fail)
                  go_roundw
                  case rel => exact ⟨k + 1, f, ([] : List OpA), la, lc, by go_num, rfl, hlk, by omega, HA4⟩
                  case measure => simp [intOf]; omega
                | some i =>
                  obtain ⟨t1, t2, t3⟩ := stk_one hp hl
                  have HC := Lib.hid (HTK.out _ _ _ t1 t2 t3)
                  have HAI := Lib.hid (HAW.out.ai.take hl hp 1)
                  have hiN := (leastF_some hl).1
                  clear t1 t2 t3 hp hl HTK
                  go_wp2_with (fail)
                  clear b0
                  refine HC.out.mono ?_
                  rintro e W4 ⟨rfl, hk4, ho⟩
                  have HK4 := Lib.hid hk4
                  have HR4 := Lib.hid (HRW.out.only ho (fun h => h (.inr rfl)))
                  have HOW4 := Lib.hid (owns_only HAW.out.row ho (fun k hk h => h (.inl hk)))
                  clear hk4 ho HC HAW HRW b1 b2 b3 b4
                  have c1 : W4.cell? ⟨ob, 1, none⟩ = some (.int .i64 slot) := HR4.out.cell 1 (by decide)
                  have c4 := HR4.out.frozen 1
                  have ho5 := Only.setCell (S := fun k => k = ob) W4 ⟨ob, 1, none⟩ rfl (.int .i64 i)
                  have HK5 := Lib.hid (HK4.out.own ho5 (fun k hk => .inr hk) (fun k hk => by rw [hk]; exact HWB.out))
                  have HR5 := Lib.hid (HR4.out.setCell 1 (.int .i64 i))
                  have HOW5 := Lib.hid (owns_only HOW4.out ho5 (fun k hk h => (HOB.out k hk).2 h))
                  clear ho5 HK4 HR4 HOW4
                  go_upto_region 15 with (fail)
                  clear c1 c4
                  generalize W4.setCell ⟨ob, 1, none⟩ (.int .i64 i) = W5 at *
                  have c0 : W5.cell? ⟨ob, 0, none⟩ = some (.int .i64 1) := HR5.out.cell 0 (by decide)
                  have c1 : W5.cell? ⟨ob, 1, none⟩ = some (.int .i64 i) := HR5.out.cell 1 (by decide)
                  have c2 : W5.cell? ⟨ob, 2, none⟩ = some (.int .i64 pid) := HR5.out.cell 2 (by decide)
                  have c3 : W5.cell? ⟨ob, 3, none⟩ = some (.int .i64 page) := HR5.out.cell 3 (by decide)
                  go_wp2_with (first | (at_builtin; refine wpList_append_where W5 rfl _ _ 22 rfl w.heap.size 33 i0 _ 4 32 Try.underlying22 hi hz0 hz1 hz2 rfl (by decide) _ _ _ #[.int .i64 1, .int .i64 i, .int .i64 pid, .int .i64 page] HOW5.out HK5.out.bel.size rfl rfl rfl (fourO_one _ _ _ _) (by omega) (by decide) ?_; intro v' W6 hown ho6 hwh) | fail)
                  have hrow : W6.ownsRow w.heap.size 33 4 v' (([] : List OpA) ++ [OpA.mk 1 i pid page]).length (recV OpA.cells (([] : List OpA) ++ [OpA.mk 1 i pid page])) := by
                    rw [List.length_append, recV_append, recV_single]
                    exact hown
                  have HT := Lib.hid (show ApAt IsS w d N (updO f i (pid.toNat, page.toNat)) (([] : List OpA) ++ [OpA.mk 1 i pid page]) v' W6 from
                    ⟨HK5.out.more (Q := fun k => v'.ownBlock = some k) ho6 (fun k hk => .inl hk) (fun k hk => (HOW5.out.lt k hk).1) (fun k hk => by
                      rcases hwh with h | h
                      · exact .inl (.inl (by rw [← h]; exact hk))
                      · exact .inr ⟨h k hk, (hrow.lt k hk).2⟩), HAI.out, hrow⟩)
                  obtain ⟨la2, lc2, hv2⟩ := own_sliceO hrow
                  have hM2 : (([] : List OpA) ++ [OpA.mk 1 i pid page]).length ≤ k + 1 := by rw [List.length_append]; simp only [List.length_cons, List.length_nil]; omega
                  clear hown ho6 hwh hrow HK5 HR5 HOW5 HAI c0 c1 c2 c3 hiN
                  subst hv2
                  generalize (([] : List OpA) ++ [OpA.mk 1 i pid page]) = M2 at *
                  generalize updO f i (pid.toNat, page.toNat) = f2 at *
                  go_wp2_with (fail)
                  have hM2b : M2.length ≤ 201 := by omega
                  have hMN : M2.length ≤ 1024 := by omega
                  refine (used_sl ok HT.out.kp M2.length HT.out.ai.len.symm).mono ?_
                  rintro e W6 ⟨rfl, hb⟩
                  have HT6 := Lib.hid (HT.out.later hb)
                  clear hb HT
                  go_wp2_with (fail)
                  go_loopw [109] (fun iv wx => ∃ j : Nat, iv = .int .i64 j ∧ j ≤ M2.length ∧ Hid (ApAt IsS w d N f2 M2 (.slice la2 M2.length lc2) wx)) (fun iv _ => M2.length - (intOf iv).toNat)
                  case atStart => exact ⟨0, rfl, Nat.zero_le _, HT6⟩
                  case round =>
                    clear HT6
                    rename World => wx
                    obtain ⟨j, rfl, hj, HT⟩ := hrel
                    by_cases hlj : j < M2.length
                    · have hjI : (j : Int) < M2.length := by omega
                      obtain ⟨g, rfl, q1, q2, q3⟩ := HT.out.at j hlj
                      obtain ⟨s, hs1, hs2, hs3, hs4⟩ := HT.out.ai.own _ (List.getElem_mem hlj)
                      obtain ⟨P, hP⟩ : ∃ P : Nat, (M2[j]'hlj).pid = P := ⟨(M2[j]'hlj).pid.toNat, by have := hs3.1; omega⟩
                      obtain ⟨Q, hQ⟩ : ∃ Q : Nat, (M2[j]'hlj).page = Q := ⟨(M2[j]'hlj).page.toNat, by have := hs3.2.2.1; omega⟩
                      have hP1 : P ≠ 0 := by have := hs3.1; omega
                      have HNE := Lib.hid (show ∀ b (hb : b < j), (M2[b]'(Nat.lt_trans hb hlj)).slot ≠ (s : Int) from fun b hb h => HT.out.ai.ne hlj hb (by rw [hs1, h]))
                      rw [hs1] at q1
                      rw [hP] at q2 hs4
                      rw [hQ] at q3 hs4
                      rw [Int.toNat_natCast, Int.toNat_natCast] at hs4
                      have HOW := Lib.hid (owner_sl ok HT.out.kp (s : Int) ⟨by omega, by have := HN.out; omega⟩ P Q true (by unfold rgO; rw [if_pos ⟨by omega, by omega⟩, Int.toNat_natCast]; exact hs4) (decide_eq_true hP1))
                      have HAT := Lib.hid (show ∀ W, ApAt IsS w d N f2 M2 (.slice (some ⟨g, 0, none⟩) M2.length lc2) W → W.cell? ⟨g, j * 4 + 1, none⟩ = some (.int .i64 s) ∧ W.cell? ⟨g, j * 4 + 2, none⟩ = some (.int .i64 P) ∧ W.cell? ⟨g, j * 4 + 3, none⟩ = some (.int .i64 Q) from fun W hW => by
                        obtain ⟨g', eg, r1, r2, r3⟩ := hW.at j hlj
                        injection eg with eg
                        injection eg with eg
                        subst eg
                        rw [hs1] at r1
                        rw [hP] at r2
                        rw [hQ] at r3
                        exact ⟨r1, r2, r3⟩)
                      clear hs1 hs2 hs3 hs4 hP hQ hP1
                      go_wp2_with (fail)
                      refine HOW.out.mono ?_
                      rintro e W7 ⟨rfl, hb⟩
                      have HT7 := Lib.hid (HT.out.later hb)
                      clear hb HT HOW q1 q2 q3
                      obtain ⟨q1, q2, q3⟩ := HAT.out W7 HT7.out
                      go_wp2_with (fail)
                      clear q1 q2 q3
                      go_loopw [144] (fun iv wy => ∃ b : Nat, iv = .int .i64 b ∧ b ≤ j ∧ Hid (ApAt IsS w d N f2 M2 (.slice (some ⟨g, 0, none⟩) M2.length lc2) wy)) (fun iv _ => j - (intOf iv).toNat)
                      case atStart => exact ⟨0, rfl, Nat.zero_le _, HT7⟩
                      case round =>
                        clear HT7
                        rename World => wy
                        obtain ⟨b, rfl, hbj, HT⟩ := hrel
                        by_cases hlb : b < j
                        · have hbI : (b : Int) < j := by omega
                          have hbI2 : (b : Int) < M2.length := by omega
                          obtain ⟨q1, _, _⟩ := HAT.out wy HT.out
                          obtain ⟨g', eg, r1, _, _⟩ := HT.out.at b (by omega)
                          injection eg with eg
                          injection eg with eg
                          subst eg
                          have hne := HNE.out b hlb
                          obtain ⟨z, hz⟩ : ∃ z, (M2[b]'(Nat.lt_trans hlb hlj)).slot = z := ⟨_, rfl⟩
                          rw [hz] at r1 hne
                          have hnb : ((s : Int) == z) = false := by simp; omega
                          have hnb2 : ¬ (s : Int) = z := fun h => hne h.symm
                          clear hz hne
                          go_wp2_with (fail)
                          go_quiet (fail)
                          have HT8 := Lib.hid (HT.out.later (below_drewN (Below.refl wy.heap.size wy) nq))
                          go_wp2_with (fail)
                          go_roundw
                          case rel => exact ⟨b + 1, by go_num, hlb, HT8⟩
                          case measure => simp [intOf]; omega
                        · obtain rfl : b = j := by omega
                          go_wp2_with (fail)
                          go_roundw
                          case rel => exact ⟨b + 1, by go_num, hlj, HT⟩
                          case measure => simp [intOf]; omega
                    · obtain rfl : j = M2.length := by omega
                      go_wp2_with (fail)
                      go_roundw
                      case rel => exact ⟨k + 1, f2, M2, la2, lc2, by go_num, rfl, hlk, hM2, HT⟩
                      case measure => simp [intOf]; omega
              · obtain ⟨t1, t2, t3⟩ := stk_no hp (f := f) (N := N)
                have HC := Lib.hid (HTK.out _ _ _ t1 t2 t3)
                clear t1 t2 t3 hp HTK
                go_wp2_with (fail)
                clear b0
                refine HC.out.mono ?_
                rintro e W4 ⟨rfl, hk4, ho⟩
                have HA4 := Lib.hid (show ApAt IsS w d N f ([] : List OpA) (.slice la ([] : List OpA).length lc) W4 from ⟨hk4.add (Below.refl _ _) (fun k h => .inl (.inl h)), HAW.out.ai, owns_only HAW.out.row ho (fun k hk h => h (.inl hk))⟩)
                clear hk4 ho HC HAW HRW b1 b2 b3 b4
                go_wp2_with (fail)
                go_roundw
                case rel => exact ⟨k + 1, f, ([] : List OpA), la, lc, by go_num, rfl, hlk, by omega, HA4⟩
                case measure => simp [intOf]; omega
      · obtain rfl : k = len := by omega
        go_wp2_with (fail)
        refine (sknown_any ok wr).mono ?_
        rintro e w2 ⟨rfl, hb⟩
        have HB := Lib.hid (HA.out.later hb).kp.bel
        clear hb HA
        go_wp2_with (fail)
        go_ret
        exact ⟨rfl, HB.out⟩
  · have h2 : (200 : Int) < len := by omega
    have hd2 : decide (200 < len) = true := decide_eq_true (by omega)
    clear hin
    go_enter Try.func4, Try.ntmps4
    go_wp2_with (fail)
    refine (sknown_any ok w).mono ?_
    rintro e w2 ⟨rfl, hb⟩
    go_wp2_with (fail)
    go_ret
    exact ⟨rfl, hb⟩
end
end Go.Proofs.Ytenfeamohcclaaa
