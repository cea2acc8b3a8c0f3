/-
  The walk of RmapPlays, for whatever map.
-/
import Derived.Test.YtjjcbbnnilafdaaRmBoth
import Derived.Test.YtjjcbbnnilafdaaRmOps
import Derived.Test.YtjjcbbnnilafdaaRmOf
import Derived.Test.YtjjcbbnnilafdaaEqArr
import Derived.Test.YtjjcbbnnilafdaaRangeP
import Derived.Deep.LoopGhost
import Derived.StillTailTactics
import Derived.Deep.DeepCutAuto
import Derived.Deep.CutBlock
namespace Go.Proofs.Ytjjcbbnnilafdaa
open Go.RowKit Go.Shelf Go
attribute [local go_sem] Oper.semAt_some

def rpF (u : Nat → Value) (sb rc d rb : Nat) (pid : Int) : List Value :=
  [u 0, u 1, u 2, u 3, u 4, .pointer (some ⟨sb, 0, none⟩), .pointer (some ⟨rc, 0, none⟩), .pointer (some ⟨d, 0, none⟩), .pointer (some ⟨rb, 0, none⟩), u 9, u 10, u 11, u 12, u 13, u 14, u 15, u 16, .int .i64 pid, u 18, u 19, u 20, u 21, u 22, u 23, u 24, u 25, u 26, u 27, u 28, u 29, u 30, u 31, u 32, u 33, u 34, u 35, u 36, u 37, u 38, u 39, u 40, u 41, u 42, u 43, u 44, u 45, u 46, u 47, u 48, u 49, u 50, u 51, u 52, u 53, u 54, u 55, u 56, u 57, u 58, u 59, u 60, u 61, u 62, u 63, u 64, u 65, u 66, u 67, u 68, u 69, u 70, u 71, u 72, u 73, u 74, u 75, u 76, u 77, u 78, u 79, u 80, u 81, u 82, u 83, u 84, u 85, u 86, u 87, u 88, u 89, u 90, u 91, u 92, u 93, u 94, u 95, u 96, u 97, u 98, u 99, u 100, u 101, u 102, u 103, u 104, u 105, u 106, u 107, u 108, u 109, u 110, u 111, u 112, u 113, u 114, u 115, u 116, u 117, u 118, u 119, u 120, u 121, u 122, u 123, u 124, u 125, u 126, u 127, u 128, u 129, u 130, u 131, u 132, u 133, u 134, u 135, u 136, u 137, u 138, u 139, u 140, u 141, u 142, u 143, u 144, u 145, u 146, u 147, u 148, u 149, u 150, u 151, u 152, u 153, u 154, u 155, u 156, u 157, u 158, u 159, u 160, u 161, u 162, u 163, u 164, u 165, u 166, u 167, u 168, u 169, u 170, u 171, u 172, u 173, u 174, u 175, u 176, u 177, u 178, u 179, u 180, u 181, u 182, u 183, u 184, u 185, u 186, u 187, u 188, u 189, u 190, u 191, u 192, u 193, u 194, u 195, u 196]
set_option maxRecDepth 100000 in
theorem rp_frame {t : Array Value} {sb rc d rb : Nat} {pid : Int} (hs : t.size = 197) (h5 : t[5]? = some (Value.pointer (some ⟨sb, 0, none⟩))) (h6 : t[6]? = some (Value.pointer (some ⟨rc, 0, none⟩))) (h7 : t[7]? = some (Value.pointer (some ⟨d, 0, none⟩))) (h8 : t[8]? = some (Value.pointer (some ⟨rb, 0, none⟩))) (h17 : t[17]? = some (Value.int .i64 pid)) :
    ∃ u, t = (rpF u sb rc d rb pid).toArray := by
  refine ⟨fun i => t.getD i undef, ?_⟩
  have hu : ∀ i v, t[i]? = some v → t.getD i undef = v := fun i v h => by
    obtain ⟨hl, rfl⟩ := Array.getElem?_eq_some_iff.1 h
    simp [Array.getD, hl]
  have e : t = ((List.range 197).map fun i => t.getD i undef).toArray := by
    apply Array.ext
    · simp [hs]
    · intro i h1 h2
      simp [Array.getD, h1]
  refine e.trans ?_
  congr 1
  obtain ⟨u, hu2⟩ : ∃ u : Nat → Value, u = fun i => t.getD i undef := ⟨_, rfl⟩
  rw [← hu2]
  unfold rpF
  rw [← (show u 5 = .pointer (some ⟨sb, 0, none⟩) by rw [hu2]; exact hu 5 _ h5)]
  rw [← (show u 6 = .pointer (some ⟨rc, 0, none⟩) by rw [hu2]; exact hu 6 _ h6)]
  rw [← (show u 7 = .pointer (some ⟨d, 0, none⟩) by rw [hu2]; exact hu 7 _ h7)]
  rw [← (show u 8 = .pointer (some ⟨rb, 0, none⟩) by rw [hu2]; exact hu 8 _ h8)]
  rw [← (show u 17 = .int .i64 pid by rw [hu2]; exact hu 17 _ h17)]
  rfl
theorem infoOpR : (Try.prog.info? 33).map (·.size) = some 4 := by kernel_rfl
theorem store_opr (w : World) (Z : Array Value) (hz : Z.size = 4) (o : OpA) :
    (storeVar 33 ⟨w.heap.size, 0, none⟩ (.agg #[.int .i64 o.kind, .int .i64 o.frame, .int .i64 o.pid, .int .i64 o.page])).run Try.prog (w.alloc (.cells Z 33)) = .ok () (w.alloc (.cells #[.int .i64 o.kind, .int .i64 o.frame, .int .i64 o.pid, .int .i64 o.page] 33)) :=
  run_storeVar_new (P := Try.prog) w 33 Z _ infoOpR hz (by simp [Value.oneCell'])
theorem opr_row (w : World) (x : OpA) (t : TypeId) : RowAt (w.alloc (.cells #[.int .i64 x.kind, .int .i64 x.frame, .int .i64 x.pid, .int .i64 x.page] t)) w.heap.size 4 (opV x) :=
  RowAt.new w _ _ _ _ fun i hi => by
    rcases (show i = 0 ∨ i = 1 ∨ i = 2 ∨ i = 3 by omega) with rfl | rfl | rfl | rfl <;> rfl
theorem still_tailP {P : Program} {id : Nat} {Q : Exit → Act → World → Prop} {a : Act} {w : World} {l : List Oper} (n : Nat) (hm : P.follows .mixedOrders = true) (hB : Region.lexTailB .any l.toArray n = true)
    (h : wpStill P l.toArray w.drew (fun a' => wpList P l.toArray Q (l.drop n) a' w.drew) (l.take n) a) : (Code.region id l.toArray true).wp P Q a w :=
  wp_region_still_tail n hm hB h
theorem sizeIntP (w : World) : (sizeOf 3).run Try.prog w = .ok 1 w := by kernel_rfl
theorem aggIntP (w : World) : (isAgg 3).run Try.prog w = .ok false w := by kernel_rfl
theorem equal_pf (x1 k1 x2 k2 : Int) (W : World) : (Op.equalIn 10000 47 (.agg #[.int .i64 x1, .int .i64 k1]) (.agg #[.int .i64 x2, .int .i64 k2])).run Try.prog W = .ok (decide (x1 = x2 ∧ k1 = k2)) W := by
  have h := equal_ints (P := Try.prog) W (d := 9998) (xs := #[.int .i64 x1, .int .i64 k1]) (ys := #[.int .i64 x2, .int .i64 k2]) (fun i => if i = 0 then x1 else k1) (fun i => if i = 0 then x2 else k2) Try.underlying47 Try.underlying3 sizeIntP aggIntP
    (fun i hi => by rcases (show i = 0 ∨ i = 1 by omega) with rfl | rfl <;> rfl) (fun i hi => by rcases (show i = 0 ∨ i = 1 by omega) with rfl | rfl <;> rfl)
  rw [h]
  congr 1
  unfold allR
  rw [Bool.eq_iff_iff]
  simp [List.range, List.range.loop]
/-- A list of pairs, read. -/
theorem own_pf {w : World} {B : Nat} {la : Option Addr} {lc : Nat} {L : List (Nat × Nat)} (h : w.ownsRow B TPf 2 (.slice la L.length lc) L.length (recV encP L)) (j : Nat) (hj : j < L.length) :
    ∃ g, la = some ⟨g, 0, none⟩ ∧ w.cell? ⟨g, j * 2, none⟩ = some (.int .i64 ((L[j]'hj).1 : Nat)) ∧ w.cell? ⟨g, j * 2 + 1, none⟩ = some (.int .i64 ((L[j]'hj).2 : Nat)) := by
  obtain ⟨a, cap, e, hR⟩ := RecsAt.of_owns h
  injection e with e1 _ _
  subst e1
  obtain ⟨g, rfl, _, _, hr⟩ := hR.get encP_len j hj
  exact ⟨g, rfl, hr 0 _ rfl, hr 1 _ rfl⟩
theorem own_sliceP {w : World} {B : Nat} {v : Value} {L : List (Nat × Nat)} (h : w.ownsRow B TPf 2 v L.length (recV encP L)) : ∃ la lc, v = .slice la L.length lc := by
  obtain ⟨a, cap, rfl, _⟩ := RecsAt.of_owns h
  exact ⟨a, cap, rfl⟩
/-- The law's world behind the calls: ranges' blocks. -/
structure LpAt (Wm : World) (Ds : List Nat) (W : World) : Prop where
  bel : Below Wm.heap.size Wm W
  nd : Ds.Nodup
  ds : ∀ D ∈ Ds, W.heap[D]? = some (.deferred (some [])) ∧ Wm.heap.size ≤ D
theorem LpAt.later {Wm W W' : World} {Ds : List Nat} (h : LpAt Wm Ds W) (hb : Below W.heap.size W W') : LpAt Wm Ds W' :=
  ⟨h.bel.trans (hb.mono h.bel.size), h.nd, fun D hD => ⟨(hb.block D (Array.getElem?_eq_some_iff.1 (h.ds D hD).1).1).trans (h.ds D hD).1, (h.ds D hD).2⟩⟩
section
variable {IsR : Thg → Nat → Nat → (Nat → Ownr) → Prop} (ok : RmOk IsR)
include ok
set_option maxRecDepth 100000 in
set_option maxHeartbeats 16000000 in
theorem lawRPlays_in (q : Nat) (hm : 8 ≤ q) (frames stop : Int) (a : Option Addr) (len cap : Nat) (O : Nat → OpA) (w : World) (hI : InI frames) (hO : OpsAt w a len O) :
    CallsIn Fence.wide q Try.prog 3 #[.int .i64 frames, .slice a len cap, .int .i64 stop] w fun e w' => e = .returned (.bool true) ∧ Below w.heap.size w w' := by
  have h1 : 1 ≤ q := by omega
  have HO := Lib.hid hO
  clear hO
  refine callsIn_of_wp_marks Try.func3 rfl trivial ?_ rfl
  simp only [Try.ntmps3, List.size_toArray, List.length_cons, List.length_nil, Nat.reduceAdd, Nat.reduceSub, Array.replicate_succ, Array.replicate_zero, List.push_toArray, List.append_toArray, List.nil_append, List.cons_append]
  refine wpIn_wide.2 ?_
  obtain ⟨wa, hwa⟩ : ∃ wa, (w.alloc (.cells #[.int .i64 stop] 3)).alloc (.cells #[.bool false] 4) = wa := ⟨_, rfl⟩
  have HB0 := Lib.hid (show Below w.heap.size w wa from by rw [← hwa]; exact ((Below.refl _ w).alloc (Nat.le_refl _) _).alloc (by simp) _)
  have HSA := Lib.hid (show wa.heap.size = w.heap.size + 2 from by rw [← hwa]; simp)
  have HRS := Lib.hid (show RowAt wa w.heap.size 1 (fun _ => .int .i64 stop) from by rw [← hwa]; exact (bx_new w stop _).alloc _)
  have HRC := Lib.hid (show RowAt wa (w.heap.size + 1) 1 (fun _ => .bool false) from by
    rw [← hwa]
    have h := RowAt.new (w.alloc (.cells #[.int .i64 stop] 3)) #[.bool false] 4 1 (fun _ => .bool false) (fun i hi => by
      obtain rfl : i = 0 := by omega
      rfl)
    rw [World.size_alloc] at h
    exact h)
  have HI := Lib.hid hI
  by_cases hin : len ≤ 150 ∧ (frames ≤ 60 ∨ 1024 < frames)
  · obtain ⟨hl, hf⟩ := hin
    have hlI : ¬ (150 : Int) < len := by omega
    have hd2 : decide (150 < len) = false := decide_eq_false (by omega)
    have hd1 : decide ((150 : Int) < (len : Int)) = false := decide_eq_false hlI
    go_upto_region 1 with (fail)
    go_cut [32] from 22 to 32 (fun v wc => v = .bool false ∧ wc = wa)
    case first =>
      rcases hf with hf | hf
      · have hf2 : ¬ (60 : Int) < frames := by omega
        go_wp2_with (fail)
        go_meet
        exact ⟨rfl, rfl⟩
      · have hf2 : (60 : Int) < frames := by omega
        have hf3 : ¬ frames ≤ (1024 : Int) := by omega
        go_wp2_with (fail)
        go_meet
        exact ⟨rfl, rfl⟩
    case rest =>
      obtain ⟨rfl, hwc⟩ := hcut
      have hwc := hwc.symm
      subst hwc
      clear hwa hf hd1 hd2 hlI
      obtain ⟨N, hN⟩ : ∃ N, capN frames = N := ⟨_, rfl⟩
      have HN := Lib.hid (show N ≤ 1024 from by rw [← hN]; exact capN_le _)
      go_wp2_with (fail)
      generalize hsb : w.heap.size = sb at *
      generalize hrc : sb + 1 = rc at *
      refine (ok.new wa frames HI.out).mono ?_
      rintro e w1 ⟨d, Y, rfl, hY, hT⟩
      rw [hN] at hY
      have HK1 := Lib.hid (KPT.new (Is := fun X => IsR X d N (fun _ => (0, 0))) hY hT)
      clear hY hT
      go_wp2_with (fail)
      refine (new_pd HK1.out frames hN).mono ?_
      rintro e w2 ⟨rb, lb, rfl, hk⟩
      have HK2 := Lib.hid hk
      clear hk HK1 hN
      have hrf := HK2.out.ref_pd
      obtain ⟨cpR, cR⟩ := hrf.c0
      have LR := Lib.hid (show ∀ W, Kept w2.heap.size w2 W → (loadVar 29 ⟨rb, 0, none⟩).run Try.prog W = .ok (.slice (some ⟨lb, 0, none⟩) N cpR) W from fun W hW => run_loadVar_cell (fun _ => by kernel_rfl) (by rw [hW.cell (World.block_lt_of_cell? _ _ cR)]; exact cR))
      have HFR := Lib.hid (show ∀ W, Kept w2.heap.size w2 W → Calls Try.prog 11 #[.pointer (some ⟨d, 0, none⟩)] W fun e w' => e = .returned (.int .i64 N) ∧ Below W.heap.size W w' from fun W hW => frames_rk ok (HK2.out.later hW.below).one_pd.rk)
      clear hrf cR
      go_wp2_with (fail)
      refine wp_region_lex (Kept w2.heap.size w2) [(0, false), (2, false), (3, false), (4, false), (5, false), (6, false), (1, true), (7, false)] (by kernel_rfl) (by kernel_rfl) rfl (by kernel_rfl) (Below.refl _ w2).drew ?_
      intro W0 hK0
      refine lexH_yieldE rfl rfl ?_
      apply Exists.intro
      refine ⟨fun W hW => ?_, ?_⟩
      focus (go_simp; exact rfl)
      simp only [List.getElem_toArray, List.getElem_cons_zero, Act.put, List.setIfInBounds_toArray, List.set_cons_zero, List.set_cons_succ]
      refine lexH_yieldE rfl rfl ?_
      apply Exists.intro
      refine ⟨fun W hW => ?_, ?_⟩
      focus (go_simp; exact rfl)
      simp only [List.getElem_toArray, List.getElem_cons_succ, List.getElem_cons_zero, Act.put, List.setIfInBounds_toArray, List.set_cons_zero, List.set_cons_succ]
      refine lexH_yieldE rfl rfl ?_
      apply Exists.intro
      refine ⟨fun W hW => ?_, ?_⟩
      focus (go_simp; exact rfl)
      simp only [List.getElem_toArray, List.getElem_cons_succ, List.getElem_cons_zero, Act.put, List.setIfInBounds_toArray, List.set_cons_zero, List.set_cons_succ]
      refine lexH_yieldE rfl rfl ?_
      apply Exists.intro
      refine ⟨fun W hW => ?_, ?_⟩
      focus (go_simp; exact rfl)
      simp only [List.getElem_toArray, List.getElem_cons_succ, List.getElem_cons_zero, Act.put, List.setIfInBounds_toArray, List.set_cons_zero, List.set_cons_succ]
      refine lexH_load rfl rfl _ _ rfl rfl LR.out ?_
      simp only [List.getElem_toArray, List.getElem_cons_succ, List.getElem_cons_zero, Act.put, List.setIfInBounds_toArray, List.set_cons_zero, List.set_cons_succ]
      refine lexH_yieldE rfl rfl ?_
      apply Exists.intro
      refine ⟨fun W hW => ?_, ?_⟩
      focus (go_simp; exact rfl)
      simp only [List.getElem_toArray, List.getElem_cons_succ, List.getElem_cons_zero, Act.put, List.setIfInBounds_toArray, List.set_cons_zero, List.set_cons_succ]
      refine lexH_call 11 #[.pointer (some ⟨d, 0, none⟩)] rfl rfl ?_ ?_
      focus (go_simp; done)
      refine (HFR.out W0 hK0).mono ?_
      rintro e w3 ⟨rfl, hb⟩
      have hK3 := hK0.call (Nat.le_refl _) hb
      refine ⟨_, rfl, hK3, ?_⟩
      simp only [List.getElem_toArray, List.getElem_cons_succ, List.getElem_cons_zero, Act.put, List.setIfInBounds_toArray, List.set_cons_zero, List.set_cons_succ]
      refine lexH_yieldE rfl rfl ?_
      apply Exists.intro
      refine ⟨fun W hW => ?_, ?_⟩
      focus (go_simp; exact rfl)
      simp only [List.getElem_toArray, List.getElem_cons_succ, List.getElem_cons_zero, Act.put, List.setIfInBounds_toArray, List.set_cons_zero, List.set_cons_succ]
      refine lexH_nil ?_
      have HK3 := Lib.hid (HK2.out.later hK3.below)
      clear hb hK3 hK0 HK2 LR HFR
      go_wp2_with (fail)
      go_loopw [7, 48] (fun s iv wl => ∃ (k d : Nat) (f : Nat → Ownr), k ≤ len ∧ iv = .int .i64 k ∧ s = .pointer (some ⟨d, 0, none⟩) ∧ Hid (KPT (PD IsR d N f rb lb f) wa (fun _ => False) wl)) (fun _ iv _ => len - (intOf iv).toNat)
      case atStart => exact ⟨0, d, _, Nat.zero_le _, rfl, rfl, HK3⟩
      case round =>
        clear HK3
        obtain ⟨k, d, f, hk, rfl, rfl, HK⟩ := hrel
        by_cases hlt : k < len
        · obtain ⟨gb, go, rfl, _, hok, hc⟩ := HO.out.one k hlt
          have HBl := Lib.hid (show Below w.heap.size w wr from by rw [hsb]; exact HB0.out.trans (HK.out.bel.mono (by have := HSA.out; omega)))
          obtain ⟨c0, c1, c2, c3⟩ := hc wr HBl.out
          have HLT := Lib.hid hlt
          have hltI : (k : Int) < (len : Int) := by omega
          clear hc HBl hlt
          generalize O k = op at c0 c1 c2 c3 hok
          have HST := Lib.hid (store_opr wr #[.int .i64 0, .int .i64 0, .int .i64 0, .int .i64 0] rfl op)
          have HRW := Lib.hid (opr_row wr op 33)
          have HPW := Lib.hid (HK.out.add (Q := fun j => j = wr.heap.size) ((Below.refl _ _).alloc (Nat.le_refl _) (.cells #[.int .i64 op.kind, .int .i64 op.frame, .int .i64 op.pid, .int .i64 op.page] 33)) (fun j hj => .inr ⟨Nat.le_of_eq hj.symm, by rw [hj]; simp⟩))
          obtain ⟨kind, fra, pid, pag⟩ := op
          dsimp only at c0 c1 c2 c3 hok HST HRW HPW
          clear HK
          go_upto_block 2 with (refine wpList_store_run rfl 33 _ _ rfl wr.heap.size _ _ rfl rfl HST.out ?_)
          clear c0 c1 c2 c3 HST
          generalize wr.heap.size = ob at *
          generalize wr.alloc (.cells #[.int .i64 kind, .int .i64 fra, .int .i64 pid, .int .i64 pag] 33) = W1 at *
          go_cut [7, 11, 12] from 57 to 103 (fun s _ _ wc => ∃ (d' : Nat) (g : Nat → Ownr), s = .pointer (some ⟨d', 0, none⟩) ∧ Hid (KPT (PD IsR d' N g rb lb g) wa (fun k => k = ob) wc) ∧ Hid (RowAt wc ob 4 (opV ⟨kind, fra, pid, pag⟩)))
          case first =>
            have HP := HPW
            have HR := HRW
            clear HPW HRW
            have c1 := HR.out.cell 1 (by decide)
            have c2 := HR.out.cell 2 (by decide)
            have c3 := HR.out.cell 3 (by decide)
            have ck := HR.out.cell 0 (by decide)
            simp only [opV] at c1 c2 c3 ck
            by_cases k0 : kind = 0
            · obtain ⟨cc, hcc⟩ : ∃ c, rsE f N fra pid pag = c := ⟨_, rfl⟩
              obtain ⟨gg, hgg⟩ : ∃ g, rsF f N fra pid pag = g := ⟨_, rfl⟩
              as_aux_lemma =>
                subst k0
                have L1 := Lib.hid (show ∀ W, Only (fun k => ¬ k = ob) W1 W → (loadVar 3 ⟨ob, 1, none⟩).run Try.prog W = .ok (.int .i64 fra) W from fun W hW => run_loadVar_cell (fun _ => by kernel_rfl) (hW.cell (fun h => h rfl) c1))
                have L2 := Lib.hid (show ∀ W, Only (fun k => ¬ k = ob) W1 W → (loadVar 3 ⟨ob, 2, none⟩).run Try.prog W = .ok (.int .i64 pid) W from fun W hW => run_loadVar_cell (fun _ => by kernel_rfl) (hW.cell (fun h => h rfl) c2))
                have L3 := Lib.hid (show ∀ W, Only (fun k => ¬ k = ob) W1 W → (loadVar 3 ⟨ob, 3, none⟩).run Try.prog W = .ok (.int .i64 pag) W from fun W hW => run_loadVar_cell (fun _ => by kernel_rfl) (hW.cell (fun h => h rfl) c3))
                go_wp2_with (fail)
                refine wp_region_lex1 (fun W => Only (fun k => ¬ k = ob) W1 W) [(0, false), (1, false), (2, false), (3, false), (4, false), (5, false), (6, false), (8, false), (9, false), (10, false), (11, false), (12, false), (13, false), (14, false), (7, true), (15, true), (16, false)] (by kernel_rfl) (by kernel_rfl) rfl (by kernel_rfl) (Only.of_below (Below.refl _ _).drew) ?_
                intro W0 hW0 hK0
                have HPa := Lib.hid (show KPT (PD IsR d N f rb lb f) wa (fun k => k = ob) W0 from by rw [hW0]; exact HP.out.later (Below.refl _ _).drew)
                clear hW0 HP c1 c2 c3
                refine lexH_yieldE rfl rfl ?_
                apply Exists.intro
                refine ⟨fun W hW => ?_, ?_⟩
                focus (go_simp; exact rfl)
                simp only [List.getElem_toArray, List.getElem_cons_zero, Act.put, List.setIfInBounds_toArray, List.set_cons_zero, List.set_cons_succ]
                refine lexH_yieldE rfl rfl ?_
                apply Exists.intro
                refine ⟨fun W hW => ?_, ?_⟩
                focus (go_simp; exact rfl)
                simp only [List.getElem_toArray, List.getElem_cons_succ, List.getElem_cons_zero, Act.put, List.setIfInBounds_toArray, List.set_cons_zero, List.set_cons_succ]
                refine lexH_load rfl rfl _ _ rfl rfl L1.out ?_
                simp only [List.getElem_toArray, List.getElem_cons_succ, List.getElem_cons_zero, Act.put, List.setIfInBounds_toArray, List.set_cons_zero, List.set_cons_succ]
                refine lexH_yieldE rfl rfl ?_
                apply Exists.intro
                refine ⟨fun W hW => ?_, ?_⟩
                focus (go_simp; exact rfl)
                simp only [List.getElem_toArray, List.getElem_cons_succ, List.getElem_cons_zero, Act.put, List.setIfInBounds_toArray, List.set_cons_zero, List.set_cons_succ]
                refine lexH_load rfl rfl _ _ rfl rfl L2.out ?_
                simp only [List.getElem_toArray, List.getElem_cons_succ, List.getElem_cons_zero, Act.put, List.setIfInBounds_toArray, List.set_cons_zero, List.set_cons_succ]
                refine lexH_yieldE rfl rfl ?_
                apply Exists.intro
                refine ⟨fun W hW => ?_, ?_⟩
                focus (go_simp; exact rfl)
                simp only [List.getElem_toArray, List.getElem_cons_succ, List.getElem_cons_zero, Act.put, List.setIfInBounds_toArray, List.set_cons_zero, List.set_cons_succ]
                refine lexH_load rfl rfl _ _ rfl rfl L3.out ?_
                simp only [List.getElem_toArray, List.getElem_cons_succ, List.getElem_cons_zero, Act.put, List.setIfInBounds_toArray, List.set_cons_zero, List.set_cons_succ]
                refine lexH_yieldE rfl rfl ?_
                apply Exists.intro
                refine ⟨fun W hW => ?_, ?_⟩
                focus (go_simp; exact rfl)
                simp only [List.getElem_toArray, List.getElem_cons_succ, List.getElem_cons_zero, Act.put, List.setIfInBounds_toArray, List.set_cons_zero, List.set_cons_succ]
                refine lexH_yieldE rfl rfl ?_
                apply Exists.intro
                refine ⟨fun W hW => ?_, ?_⟩
                focus (go_simp; exact rfl)
                simp only [List.getElem_toArray, List.getElem_cons_succ, List.getElem_cons_zero, Act.put, List.setIfInBounds_toArray, List.set_cons_zero, List.set_cons_succ]
                refine lexH_load rfl rfl _ _ rfl rfl L1.out ?_
                simp only [List.getElem_toArray, List.getElem_cons_succ, List.getElem_cons_zero, Act.put, List.setIfInBounds_toArray, List.set_cons_zero, List.set_cons_succ]
                refine lexH_yieldE rfl rfl ?_
                apply Exists.intro
                refine ⟨fun W hW => ?_, ?_⟩
                focus (go_simp; exact rfl)
                simp only [List.getElem_toArray, List.getElem_cons_succ, List.getElem_cons_zero, Act.put, List.setIfInBounds_toArray, List.set_cons_zero, List.set_cons_succ]
                refine lexH_load rfl rfl _ _ rfl rfl L2.out ?_
                simp only [List.getElem_toArray, List.getElem_cons_succ, List.getElem_cons_zero, Act.put, List.setIfInBounds_toArray, List.set_cons_zero, List.set_cons_succ]
                refine lexH_yieldE rfl rfl ?_
                apply Exists.intro
                refine ⟨fun W hW => ?_, ?_⟩
                focus (go_simp; exact rfl)
                simp only [List.getElem_toArray, List.getElem_cons_succ, List.getElem_cons_zero, Act.put, List.setIfInBounds_toArray, List.set_cons_zero, List.set_cons_succ]
                refine lexH_load rfl rfl _ _ rfl rfl L3.out ?_
                simp only [List.getElem_toArray, List.getElem_cons_succ, List.getElem_cons_zero, Act.put, List.setIfInBounds_toArray, List.set_cons_zero, List.set_cons_succ]
                refine lexH_call 12 #[.pointer (some ⟨d, 0, none⟩), .int .i64 fra, .int .i64 pid, .int .i64 pag] rfl rfl ?_ ?_
                focus (go_simp; done)
                refine (set_pd ok HPa.out fra pid pag hok.1 hok.2.1 hok.2.2 cc gg hcc hgg).mono ?_
                rintro e w4 ⟨rfl, hP4, ho⟩
                have HP4 := Lib.hid hP4
                have hK4 := hK0.trans ho
                refine ⟨_, rfl, hK4, ?_⟩
                clear hP4 ho HPa hK0
                simp only [List.getElem_toArray, List.getElem_cons_succ, List.getElem_cons_zero, Act.put, List.setIfInBounds_toArray, List.set_cons_zero, List.set_cons_succ]
                refine lexH_call 13 #[.pointer (some ⟨rb, 0, none⟩), .int .i64 fra, .int .i64 pid, .int .i64 pag] rfl rfl ?_ ?_
                focus (go_simp; done)
                refine (rset_pd ok HP4.out fra pid pag cc gg hcc hgg).mono ?_
                rintro e w5 ⟨rfl, hP5, ho⟩
                have HP5 := Lib.hid hP5
                have HR5 := Lib.hid (HR.out.only (hK4.trans ho) (fun h => h rfl))
                refine ⟨_, rfl, hK4.trans ho, ?_⟩
                clear hP5 ho HP4 hK4 L1 L2 L3
                simp only [List.getElem_toArray, List.getElem_cons_succ, List.getElem_cons_zero, Act.put, List.setIfInBounds_toArray, List.set_cons_zero, List.set_cons_succ]
                refine lexH_yieldE rfl rfl ?_
                apply Exists.intro
                refine ⟨fun W hW => ?_, ?_⟩
                focus (go_simp; exact rfl)
                simp only [List.getElem_toArray, List.getElem_cons_succ, List.getElem_cons_zero, Act.put, List.setIfInBounds_toArray, List.set_cons_zero, List.set_cons_succ]
                refine lexH_nil ?_
                go_wp2_with (fail)
                go_meet
                exact ⟨d, gg, rfl, HP5, HR5⟩
            · have e0 : (kind == 0) = false := beq_eq_false_iff_ne.2 k0
              by_cases k1 : kind = 1
              · obtain ⟨cc, hcc⟩ : ∃ c, rcE f N fra = c := ⟨_, rfl⟩
                obtain ⟨gg, hgg⟩ : ∃ g, rcF f N fra = g := ⟨_, rfl⟩
                as_aux_lemma =>
                  subst k1
                  have L1 := Lib.hid (show ∀ W, Only (fun k => ¬ k = ob) W1 W → (loadVar 3 ⟨ob, 1, none⟩).run Try.prog W = .ok (.int .i64 fra) W from fun W hW => run_loadVar_cell (fun _ => by kernel_rfl) (hW.cell (fun h => h rfl) c1))
                  go_wp2_with (fail)
                  refine wp_region_lex1 (fun W => Only (fun k => ¬ k = ob) W1 W) [(0, false), (1, false), (2, false), (4, false), (5, false), (6, false), (3, true), (7, true), (8, false)] (by kernel_rfl) (by kernel_rfl) rfl (by kernel_rfl) (Only.of_below (Below.refl _ _).drew) ?_
                  intro W0 hW0 hK0
                  have HPa := Lib.hid (show KPT (PD IsR d N f rb lb f) wa (fun k => k = ob) W0 from by rw [hW0]; exact HP.out.later (Below.refl _ _).drew)
                  clear hW0 HP c1 c2 c3
                  refine lexH_yieldE rfl rfl ?_
                  apply Exists.intro
                  refine ⟨fun W hW => ?_, ?_⟩
                  focus (go_simp; exact rfl)
                  simp only [List.getElem_toArray, List.getElem_cons_zero, Act.put, List.setIfInBounds_toArray, List.set_cons_zero, List.set_cons_succ]
                  refine lexH_yieldE rfl rfl ?_
                  apply Exists.intro
                  refine ⟨fun W hW => ?_, ?_⟩
                  focus (go_simp; exact rfl)
                  simp only [List.getElem_toArray, List.getElem_cons_succ, List.getElem_cons_zero, Act.put, List.setIfInBounds_toArray, List.set_cons_zero, List.set_cons_succ]
                  refine lexH_load rfl rfl _ _ rfl rfl L1.out ?_
                  simp only [List.getElem_toArray, List.getElem_cons_succ, List.getElem_cons_zero, Act.put, List.setIfInBounds_toArray, List.set_cons_zero, List.set_cons_succ]
                  refine lexH_yieldE rfl rfl ?_
                  apply Exists.intro
                  refine ⟨fun W hW => ?_, ?_⟩
                  focus (go_simp; exact rfl)
                  simp only [List.getElem_toArray, List.getElem_cons_succ, List.getElem_cons_zero, Act.put, List.setIfInBounds_toArray, List.set_cons_zero, List.set_cons_succ]
                  refine lexH_yieldE rfl rfl ?_
                  apply Exists.intro
                  refine ⟨fun W hW => ?_, ?_⟩
                  focus (go_simp; exact rfl)
                  simp only [List.getElem_toArray, List.getElem_cons_succ, List.getElem_cons_zero, Act.put, List.setIfInBounds_toArray, List.set_cons_zero, List.set_cons_succ]
                  refine lexH_load rfl rfl _ _ rfl rfl L1.out ?_
                  simp only [List.getElem_toArray, List.getElem_cons_succ, List.getElem_cons_zero, Act.put, List.setIfInBounds_toArray, List.set_cons_zero, List.set_cons_succ]
                  refine lexH_call 14 #[.pointer (some ⟨d, 0, none⟩), .int .i64 fra] rfl rfl ?_ ?_
                  focus (go_simp; done)
                  refine (clear_pd ok HPa.out fra hok.1 cc gg hcc hgg).mono ?_
                  rintro e w4 ⟨rfl, hP4, ho⟩
                  have HP4 := Lib.hid hP4
                  have hK4 := hK0.trans ho
                  refine ⟨_, rfl, hK4, ?_⟩
                  clear hP4 ho HPa hK0
                  simp only [List.getElem_toArray, List.getElem_cons_succ, List.getElem_cons_zero, Act.put, List.setIfInBounds_toArray, List.set_cons_zero, List.set_cons_succ]
                  refine lexH_call 15 #[.pointer (some ⟨rb, 0, none⟩), .int .i64 fra] rfl rfl ?_ ?_
                  focus (go_simp; done)
                  refine (rclear_pd HP4.out fra cc gg hcc hgg).mono ?_
                  rintro e w5 ⟨rfl, hP5, ho⟩
                  have HP5 := Lib.hid hP5
                  have HR5 := Lib.hid (HR.out.only (hK4.trans ho) (fun h => h rfl))
                  refine ⟨_, rfl, hK4.trans ho, ?_⟩
                  clear hP5 ho HP4 hK4 L1
                  simp only [List.getElem_toArray, List.getElem_cons_succ, List.getElem_cons_zero, Act.put, List.setIfInBounds_toArray, List.set_cons_zero, List.set_cons_succ]
                  refine lexH_yieldE rfl rfl ?_
                  apply Exists.intro
                  refine ⟨fun W hW => ?_, ?_⟩
                  focus (go_simp; exact rfl)
                  simp only [List.getElem_toArray, List.getElem_cons_succ, List.getElem_cons_zero, Act.put, List.setIfInBounds_toArray, List.set_cons_zero, List.set_cons_succ]
                  refine lexH_nil ?_
                  go_wp2_with (fail)
                  go_meet
                  exact ⟨d, gg, rfl, HP5, HR5⟩
              · have e1 : (kind == 1) = false := beq_eq_false_iff_ne.2 k1
                by_cases k2 : kind = 2
                · as_aux_lemma =>
                    subst k2
                    go_wp2_with (fail)
                    refine (copy_pd ok HP.out).mono ?_
                    rintro e w4 ⟨d2, rfl, hP4, ho⟩
                    have HP4 := Lib.hid hP4
                    have HR4 := Lib.hid (HR.out.only ho (fun h => h rfl))
                    have hrf := hP4.drop_p3.ref_pd
                    obtain ⟨cpR, cR⟩ := hrf.c0
                    clear hP4 ho HP HR hrf c1 c2 c3
                    go_wp2_with (fail)
                    go_loopw [96] (fun iv wx => ∃ (j : Nat) (g : Nat → Ownr), iv = .int .i64 j ∧ j ≤ N ∧ Hid (KPT (P3 IsR d N g rb lb f d2 f) wa (fun k => k = ob) wx) ∧ Hid (RowAt wx ob 4 (opV ⟨2, fra, pid, pag⟩))) (fun iv _ => N - (intOf iv).toNat)
                    case atStart => exact ⟨0, _, rfl, Nat.zero_le _, HP4, HR4⟩
                    case round =>
                      clear HP4 HR4 cR
                      rename World => wx
                      obtain ⟨j, g, rfl, hj, HP4, HR4⟩ := hrel
                      have b1 := HN.out
                      by_cases hlj : j < N
                      · go_wp2_with (fail)
                        refine (clear_p3 ok HP4.out (j : Int) ⟨by omega, by omega⟩).mono ?_
                        rintro e w6 ⟨c6, rfl, hP6, ho⟩
                        have HP6 := Lib.hid hP6
                        have HR6 := Lib.hid (HR4.out.only ho (fun h => h rfl))
                        clear hP6 ho HP4 HR4
                        go_wp2_with (fail)
                        go_roundw
                        case rel => exact ⟨j + 1, _, by go_num, hlj, HP6, HR6⟩
                        case measure => simp [intOf]; omega
                      · obtain rfl : j = N := by omega
                        have HP7 := Lib.hid HP4.out.drop_p3
                        clear HP4
                        go_wp2_with (fail)
                        go_meet
                        exact ⟨d2, f, rfl, HP7, HR4⟩
                · have e2 : (kind == 2) = false := beq_eq_false_iff_ne.2 k2
                  go_wp2_with (fail)
                  go_meet
                  exact ⟨d, f, rfl, HP, HR⟩
          case rest =>
            obtain ⟨d', g, rfl, HC, HRO⟩ := hcut
            have c1 : wc.cell? ⟨ob, 1, none⟩ = some (.int .i64 fra) := HRO.out.cell 1 (by decide)
            clear HPW HRW
            obtain ⟨⟨p, x⟩, hpx⟩ : ∃ x, rgO g N fra = x := ⟨_, rfl⟩
            have HPX := Lib.hid hpx
            obtain ⟨b, hb⟩ : ∃ b, decide (p ≠ 0) = b := ⟨_, rfl⟩
            have HBB := Lib.hid hb
            clear hpx hb
            go_wp2_with (fail)
            refine (get_rk ok HC.out.one_pd.rk fra hok.1 p x b HPX.out HBB.out).mono ?_
            rintro e w8 ⟨rfl, hb⟩
            have HC8 := Lib.hid (HC.out.later hb)
            have HR8 := Lib.hid (HRO.out.later hb)
            clear hb HC HRO c1
            have HB9 := Lib.hid ((Below.refl w8.heap.size w8).alloc (Nat.le_refl _) (.cells #[.int .i64 0, .int .i64 0] 41))
            have HZ9 := Lib.hid (RowAt.new w8 #[.int .i64 0, .int .i64 0] 41 2 (fun _ => .int .i64 0) (fun i hi => by
              rcases (show i = 0 ∨ i = 1 by omega) with rfl | rfl <;> rfl))
            have HRF := Lib.hid (HC8.out.later HB9.out).ref_pd
            have HR9 := Lib.hid (HR8.out.later HB9.out)
            have HCN := Lib.hid (show ∀ V, Below w8.heap.size w8 V → KPT (PD IsR d' N g rb lb g) wa (fun _ => False) V from fun V hV => (HC8.out.later hV).add (Q := fun _ => False) (Below.refl _ _) (fun _ h => h.elim))
            clear HC8 HR8
            go_wp2_with (fail)
            generalize w8.alloc (.cells #[.int .i64 0, .int .i64 0] 41) = w9 at *
            generalize hwb : w8.heap.size = wb at *
            obtain ⟨cpR, cR⟩ := HRF.out.c0
            have c1 : w9.cell? ⟨ob, 1, none⟩ = some (.int .i64 fra) := HR9.out.cell 1 (by decide)
            have z0 : w9.cell? ⟨wb, 0, none⟩ = some (.int .i64 0) := HZ9.out.cell 0 (by decide)
            have z1 : w9.cell? ⟨wb, 1, none⟩ = some (.int .i64 0) := HZ9.out.cell 1 (by decide)
            by_cases hfr : FrOk N fra
            · obtain ⟨hf0, hf1⟩ := hfr
              obtain ⟨F, rfl⟩ : ∃ F : Nat, fra = F := ⟨fra.toNat, by omega⟩
              have hFN : F < N := by omega
              have hgF : g F = (p, x) := by rw [← HPX.out]; unfold rgO; rw [if_pos ⟨by omega, by omega⟩, Int.toNat_natCast]
              obtain ⟨r0, r1⟩ := HRF.out.at hFN hgF
              have f0 := HZ9.out.frozen 0
              have f1 := HZ9.out.frozen 1
              have hbx : ((p : Int) != 0) = b := by
                rw [← HBB.out]
                by_cases h : p = 0
                · subst h; rfl
                · rw [decide_eq_true h]; simp; omega
              clear HPX hgF hf0
              go_quiet (fail)
              go_wp2_with (fail)
              refine still_tailP 8 (by kernel_rfl) (by kernel_rfl) ?_
              simp only [List.take_succ_cons, List.take_zero, List.drop_succ_cons, List.drop_zero]
              repeat still_step
              refine wpStill_nil ?_
              have HZV := Lib.hid (HZ9.out.later (below_drewN (Below.refl w9.heap.size w9) nq).drew)
              have HBV := Lib.hid (below_drewN HB9.out nq).drew
              clear z0 z1 f0 f1 c1 cR r0 r1 HB9 HZ9 HRF HR9
              generalize (w9.drewN nq).drew = V0 at *
              have z0 : V0.cell? ⟨wb, 0, none⟩ = some (.int .i64 0) := HZV.out.cell 0 (by decide)
              have z1 : V0.cell? ⟨wb, 1, none⟩ = some (.int .i64 0) := HZV.out.cell 1 (by decide)
              have f0 := HZV.out.frozen 0
              have f1 := HZV.out.frozen 1
              have HBE := Lib.hid ((HBV.out.setCell (p := ⟨wb, 0, none⟩) (Nat.le_refl _) (.int .i64 p)).setCell (p := ⟨wb, 1, none⟩) (Nat.le_refl _) (.int .i64 x))
              have HKE := Lib.hid (HCN.out _ HBE.out)
              go_wp2_with (fail)
              go_roundw
              case rel => exact ⟨k + 1, d', g, by have := HLT.out; omega, by go_num, rfl, HKE⟩
              case measure => have := HLT.out; simp [intOf]; omega
            · have hpx : (0, 0) = (p, x) := by rw [← HPX.out]; unfold rgO; rw [if_neg hfr]
              cases hpx
              have hb := HBB.out
              rw [show decide ((0 : Nat) ≠ 0) = false from rfl] at hb
              subst hb
              clear HPX HBB
              by_cases h0 : fra < 0
              · have h0' : ¬ 0 ≤ fra := by omega
                clear hfr
                go_quiet (fail)
                have HKE := Lib.hid (HCN.out _ (below_drewN HB9.out nq))
                go_wp2_with (fail)
                go_roundw
                case rel => exact ⟨k + 1, d', g, by have := HLT.out; omega, by go_num, rfl, HKE⟩
                case measure => have := HLT.out; simp [intOf]; omega
              · have h0' : 0 ≤ fra := by omega
                have h2 : ¬ fra < (N : Int) := fun h => hfr ⟨h0', h⟩
                clear hfr h0
                go_quiet (fail)
                have HKE := Lib.hid (HCN.out _ (below_drewN HB9.out nq))
                go_wp2_with (fail)
                go_roundw
                case rel => exact ⟨k + 1, d', g, by have := HLT.out; omega, by go_num, rfl, HKE⟩
                case measure => have := HLT.out; simp [intOf]; omega
        · obtain rfl : k = len := by omega
          revert wr
          intro Wm HK
          obtain ⟨_, ⟨X, rfl, hX⟩, hA, hB, _, _⟩ := HK.out
          have HX := Lib.hid hX
          have HXA := Lib.hid hA.1
          have HRF := Lib.hid hA.2.1
          have HBm := Lib.hid hB
          have HNLE := Lib.hid (ok.inv hX).le
          have HXL := Lib.hid (fun k hk => X.lt Wm hA.1 k hk)
          have HA0 := Lib.hid (show LpAt Wm [] Wm from ⟨Below.refl _ _, List.nodup_nil, fun D hD => absurd hD List.not_mem_nil⟩)
          clear hX hA hB HK
          go_wp2_with (fail)
          refine wp_loop_ghost (fun j a' W => ∃ (P : Int) (Ds : List Nat), j = (10 - P).toNat ∧ -1 ≤ P ∧ P ≤ 10 ∧ a'.tmps.size = 197 ∧ a'.tmps[5]? = some (.pointer (some ⟨sb, 0, none⟩)) ∧ a'.tmps[6]? = some (.pointer (some ⟨rc, 0, none⟩)) ∧ a'.tmps[7]? = some (.pointer (some ⟨d, 0, none⟩)) ∧ a'.tmps[8]? = some (.pointer (some ⟨rb, 0, none⟩)) ∧ a'.tmps[17]? = some (.int .i64 P) ∧
            a'.defers = colls Ds ∧ LpAt Wm Ds W) 11
            ⟨-1, [], rfl, by decide, by decide, rfl, rfl, rfl, rfl, rfl, rfl, rfl, HA0.out⟩ ?_
          clear HA0
          rintro j ⟨tm, df⟩ wl ⟨P, Ds, rfl, hp1, hp9, s0, t5, t6, t7, t8, t17, rfl, hA⟩
          dsimp only at s0 t5 t6 t7 t8 t17
          obtain ⟨u, rfl⟩ := rp_frame s0 t5 t6 t7 t8 t17
          have HA := Lib.hid hA
          clear s0 t5 t6 t7 t8 t17 hA
          unfold rpF
          by_cases hlp : P ≤ 9
          · have HOF := Lib.hid (show ∀ W, Below Wm.heap.size Wm W → Calls Try.prog 19 #[.pointer (some ⟨d, 0, none⟩), .int .i64 P] W (TellR X (ofL f N P 1024) W) from fun W hb => ok.of P ⟨by omega, by omega⟩ HX.out (X.later HXA.out hb))
            have HRO := Lib.hid (rof_any (HRF.out.later HA.out.bel) HNLE.out P)
            obtain ⟨L, hL⟩ : ∃ L, ofL f N P 1024 = L := ⟨_, rfl⟩
            have HLL := Lib.hid (show L.length ≤ 1024 from by rw [← hL]; exact ofL_len P 1024)
            rw [hL] at HOF HRO
            clear hL
            go_wp2_with (fail)
            refine HRO.out.mono ?_
            rintro e w1 ⟨v, rfl, hown, hb⟩
            obtain ⟨la, lc, rfl⟩ := own_sliceP hown
            have HA1 := Lib.hid (HA.out.later hb)
            have HOW1 := Lib.hid (owns_base (base' := wl.heap.size) hown (fun _ h => (hown.lt _ h).1))
            clear hown hb HRO HA
            have hb2 := (Below.refl w1.heap.size w1).alloc (Nat.le_refl _) (.cells #[.slice la L.length lc] 42)
            have hb3 := hb2.alloc hb2.size (.cells #[.int .i64 0] 3)
            have HA2 := Lib.hid (HA1.out.later hb3)
            have HOW2 := Lib.hid (owns_later HOW1.out hb3)
            have HAB2 := Lib.hid ((RowAt.new w1 #[.slice la L.length lc] 42 1 (fun _ => .slice la L.length lc) (fun i hi => by
              obtain rfl : i = 0 := by omega
              rfl)).alloc (.cells #[.int .i64 0] 3))
            have HNB2 := Lib.hid (show RowAt ((w1.alloc (.cells #[.slice la L.length lc] 42)).alloc (.cells #[.int .i64 0] 3)) (w1.heap.size + 1) 1 (fun _ => .int .i64 (0 : Int)) from by
              have h := bx_new (w1.alloc (.cells #[.slice la L.length lc] 42)) 0 3
              rw [World.size_alloc] at h
              exact h)
            have HOL := Lib.hid (show ∀ k, (Value.slice la L.length lc).ownBlock = some k → k < w1.heap.size from fun k hk => (HOW1.out.lt k hk).2)
            have HWL := Lib.hid HA1.out.bel.size
            clear HA1 HOW1 hb2 hb3
            go_wp2_with (fail)
            generalize (w1.alloc (.cells #[.slice la L.length lc] 42)).alloc (.cells #[.int .i64 0] 3) = w2 at *
            generalize hab : w1.heap.size = ab at *
            generalize hnb : ab + 1 = nb at *
            refine (HOF.out _ HA2.out.bel).mono ?_
            rintro e w3 ⟨g0, lb0, own0, rfl, hb, _, hnil0, _, _⟩
            have HA3 := Lib.hid (HA2.out.later hb)
            have HOW3 := Lib.hid (owns_later HOW2.out hb)
            have HAB3 := Lib.hid (HAB2.out.later hb)
            have HNB3 := Lib.hid (HNB2.out.later hb)
            clear hb HA2 HOW2 HAB2 HNB2
            go_wp2_with (fail)
            clear hnil0
            refine (HOF.out _ HA3.out.bel).mono ?_
            rintro e w4 ⟨g1, lb1, own1, rfl, hb, hent1, _, hown1, hT1⟩
            have HA4 := Lib.hid (HA3.out.later hb)
            have HOW4 := Lib.hid (owns_later HOW3.out hb)
            have HAB4 := Lib.hid (HAB3.out.later hb)
            have HNB4 := Lib.hid (HNB3.out.later hb)
            have HENT := Lib.hid hent1
            have HT1 := Lib.hid hT1
            have HOWN := Lib.hid (show ∀ k, own1 k → k < w4.heap.size ∧ ¬ k = nb from fun k hk => by
              obtain ⟨h2, h3⟩ := hown1 k hk
              refine ⟨h3, fun e => ?_⟩
              have a1 := HNB3.out.lt
              have a2 := HWL.out
              rcases h2 with h2 | h2
              · have := HXL.out k h2
                omega
              · omega)
            clear hb HA3 HOW3 HAB3 HNB3 hent1 hT1 hown1
            go_wp2_with (fail)
            have hn4 := HNB4.out.lt
            have hsq := HT1.out.solo (q - 1) (by omega) (fun k => k = nb) (fun k hk => by rw [hk]; exact hn4) HOWN.out
            have HNX := Lib.hid (show BxAt w4 nb (([] : List (Fin L.length)).length : Nat) w4 from ⟨HNB4.out, Only.refl _ _⟩)
            have HSB := Lib.hid (show w4.cell? ⟨sb, 0, none⟩ = some (.int .i64 stop) ∧ sb < nb from by
              have a1 := HA4.out.bel.size
              have a2 := HBm.out.size
              have a3 := HSA.out
              have a4 := HWL.out
              exact ⟨((HRS.out.below HBm.out (by omega)).below HA4.out.bel (by omega)).cell 0 (by decide), by omega⟩)
            clear HOWN HNB4
            refine (wpIn_wide (n := q)).1 ?_
            refine range_b2 rfl h1 (gf := g1) (lb := lb1) (by simp [go_sem]) trivial HENT.out hsq (fun x => .int .i64 ((L[x.val]'x.isLt).1 : Nat)) (fun x => .int .i64 ((L[x.val]'x.isLt).2 : Nat)) (fun x => rfl) KpZ.trans (fun W l o o' _ _ _ => KpZ.put W l o') (fun pre W => BxAt w4 nb (pre.length : Nat) W)
              (fun pre W => BxAt w4 nb (pre.length : Nat) W ∧ ((pre.length : Nat) : Int) = stop) (bx_own (n := fun (pre : List (Fin L.length)) => (pre.length : Nat)) hn4) (fun s X Y row h hg hr => ⟨bx_own (n := fun (pre : List (Fin L.length)) => (pre.length : Nat)) hn4 s X Y row h.1 hg hr, h.2⟩) HNX.out 20 21 _ ?assign1 ?body1 ?done1
            case assign1 =>
              intro l' pre x V K hl' hI hK
              have HK := Lib.hid hK
              have HI2 := Lib.hid hI
              clear hK hI hsq
              gi_wp2_with (fail)
              have h9 := HK.out V (KeepsFrom.refl _ _) HI2.out (KpZ.of_below (Below.refl _ _))
              simpa using h9
            case body1 =>
              rintro l' pre x U0 V hl' hI hk0 hlen2
              obtain ⟨hxl, _⟩ := next_of_some hlen2
              have HK0 := Lib.hid hk0
              have hpl : pre.length < L.length := by rw [← hxl]; exact x.isLt
              obtain ⟨y, hy⟩ : ∃ y, L[pre.length]'hpl = y := ⟨_, rfl⟩
              have hq2 : L[x.val]'x.isLt = y := by rw [← hy]; exact getElem_congr_idx hxl
              have hOV := owns_only HOW4.out hI.only (fun k hk h => by have := HOL.out k hk; omega)
              obtain ⟨gb2, e2, r0, r1⟩ := own_pf hOV pre.length hpl
              rw [hy] at r0 r1
              obtain ⟨pg, fr⟩ := y
              dsimp only at r0 r1
              simp only [hq2]
              have kn : V.cell? ⟨nb, 0, none⟩ = some (.int .i64 (pre.length : Nat)) := hI.row.cell 0 (by decide)
              have kf : V.frozen? ⟨nb, 0, none⟩ = false := hI.row.frozen 0
              have ka : V.cell? ⟨ab, 0, none⟩ = some (.slice la L.length lc) := hI.only.cell (by omega) (HAB4.out.cell 0 (by decide))
              have ks : V.cell? ⟨sb, 0, none⟩ = some (.int .i64 stop) := hI.only.cell (by have := HSB.out.2; omega) HSB.out.1
              have HNX3 := Lib.hid (hI.step ((pre ++ [x]).length : Nat))
              have hl2 : (((pre ++ [x]).length : Nat) : Int) = (pre.length : Int) + 1 := by simp
              have HL2 := Lib.hid hl2
              rw [hl2] at HNX3
              have hpe := equal_pf (pg : Int) (fr : Int) (pg : Int) (fr : Int)
              rw [decide_eq_true (show (pg : Int) = pg ∧ (fr : Int) = fr from ⟨rfl, rfl⟩)] at hpe
              have hpl2 : ¬ (L.length : Int) ≤ (pre.length : Nat) := by omega
              have hpl3 : ((pre.length : Nat) : Int) < L.length := by omega
              have hll := HLL.out
              subst e2
              clear hsq hk0 hI hxl hlen2 hy hq2 hOV hl2
              generalize hjl : pre.length = j at *
              have HJL := Lib.hid hjl
              clear hjl
              have hne1 : ¬ sb = nb := by have := HSB.out.2; omega
              by_cases hst : (j : Int) + 1 = stop
              · subst hst
                gi_wp2_with (fail)
                have HON := Lib.hid (show Only (fun k => k = nb) V (V.setCell ⟨nb, 0, none⟩ (.int .i64 ((j : Int) + 1))) from Only.setCell (S := fun k => k = nb) _ ⟨nb, 0, none⟩ rfl _)
                refine ⟨⟨HON.out.size, fun i o hB hi hc => (HON.out.block i (Array.getElem?_eq_some_iff.1 hi).1 (by omega)).trans hi⟩, HK0.out.trans (KpZ.of_only HON.out), rfl, ?_, ?_⟩
                · rw [HL2.out]
                  exact HNX3.out
                · rw [HL2.out]
              · gi_wp2_with (fail)
                have HON := Lib.hid (show Only (fun k => k = nb) V (V.setCell ⟨nb, 0, none⟩ (.int .i64 ((j : Int) + 1))) from Only.setCell (S := fun k => k = nb) _ ⟨nb, 0, none⟩ rfl _)
                refine ⟨⟨HON.out.size, fun i o hB hi hc => (HON.out.block i (Array.getElem?_eq_some_iff.1 hi).1 (by omega)).trans hi⟩, HK0.out.trans (KpZ.of_only HON.out), ?_⟩
                show BxAt w4 nb (((pre ++ [x]).length : Nat) : Int) _
                rw [HL2.out]
                exact HNX3.out
            case done1 =>
              rintro D xs V hD hxs hDk
              have hbx : BxAt w4 nb (xs.length : Nat) V ∧ (xs.length = L.length ∨ ¬ xs.length = L.length ∧ ((xs.length : Nat) : Int) = stop) := by
                rcases hxs with ⟨h2, h3⟩ | ⟨_, h3, h4⟩
                · have := congrArg List.length h2
                  rw [List.length_map, List.length_range] at this
                  exact ⟨h3, .inl this⟩
                · by_cases h5 : xs.length = L.length
                  · exact ⟨h3, .inl h5⟩
                  · exact ⟨h3, .inr ⟨h5, h4⟩⟩
              clear hxs
              obtain ⟨hI, hm⟩ := hbx
              generalize xs.length = m at *
              have kn : V.cell? ⟨nb, 0, none⟩ = some (.int .i64 m) := hI.row.cell 0 (by decide)
              have ka : V.cell? ⟨ab, 0, none⟩ = some (.slice la L.length lc) := hI.only.cell (by omega) (HAB4.out.cell 0 (by decide))
              have ks : V.cell? ⟨sb, 0, none⟩ = some (.int .i64 stop) := hI.only.cell (by have := HSB.out.2; omega) HSB.out.1
              have hne : ∀ E ∈ Ds, ¬ E = nb := fun E hE h => by
                obtain ⟨a1, a2⟩ := HA4.out.ds E hE
                obtain ⟨A, t, hA, _⟩ := HNX.out.row
                rw [h, hA] at a1
                cases a1
              have HA5 := Lib.hid (show LpAt Wm (D :: Ds) V from by
                refine ⟨hI.only.below HA4.out.bel HA4.out.bel.size (fun k hk => by have := HWL.out; omega), List.nodup_cons.2 ⟨fun hm => ?_, HA4.out.nd⟩, fun E hE => ?_⟩
                · have := (Array.getElem?_eq_some_iff.1 (HA4.out.ds D hm).1).1
                  omega
                · rcases List.mem_cons.1 hE with rfl | hE
                  · exact ⟨hDk, Nat.le_trans HA4.out.bel.size hD⟩
                  · exact ⟨(hI.only.block E (Array.getElem?_eq_some_iff.1 (HA4.out.ds E hE).1).1 (hne E hE)).trans (HA4.out.ds E hE).1, (HA4.out.ds E hE).2⟩)
              clear hsq hI hDk HNX HT1 HENT HA4 hne HOW4 HAB4 HSB
              rcases hm with hm | ⟨hm, hst⟩
              · subst hm
                go_wp2_with (fail)
                first | exact ⟨(10 - (P + 1)).toNat, by omega, P + 1, D :: Ds, rfl, by omega, by omega, rfl, rfl, rfl, rfl, rfl, rfl, rfl, HA5.out⟩ | exact ⟨(10 - (P + 1)).toNat, by omega, P + 1, rfl, by omega, by omega, D :: Ds, rfl, HA5.out⟩
              · have hmb : ((m : Int) != (L.length : Int)) = true := by simp; omega
                have hmc : ((m : Int) == (L.length : Int)) = false := by simp; omega
                subst hst
                go_wp2_with (fail)
                first | exact ⟨(10 - (P + 1)).toNat, by omega, P + 1, D :: Ds, rfl, by omega, by omega, rfl, rfl, rfl, rfl, rfl, rfl, rfl, HA5.out⟩ | exact ⟨(10 - (P + 1)).toNat, by omega, P + 1, rfl, by omega, by omega, D :: Ds, rfl, HA5.out⟩
          · obtain rfl : P = 10 := by omega
            go_wp2_with (fail)
            refine (known_any ok _).mono ?_
            rintro e w8 ⟨rfl, hb⟩
            have HA8 := Lib.hid (HA.out.later hb)
            have HB8 := Lib.hid (HBm.out.trans (HA8.out.bel.mono HBm.out.size))
            have hsa := HSA.out
            have HRC8 := Lib.hid (HRC.out.below HB8.out (by omega))
            clear hb HA
            have cr : w8.cell? ⟨rc, 0, none⟩ = some (.bool false) := HRC8.out.cell 0 (by decide)
            have fr : w8.frozen? ⟨rc, 0, none⟩ = false := HRC8.out.frozen 0
            have HRC9 := Lib.hid (HRC8.out.setCell 0 (.bool true))
            have HB9 := Lib.hid ((HB0.out.trans (HB8.out.mono (by omega))).setCell (p := ⟨rc, 0, none⟩) (by show sb ≤ rc; omega) (.bool true))
            have hmg := HBm.out.size
            have hDs : ∀ D ∈ Ds, rc ≠ D := fun D hD e => by have := (HA8.out.ds D hD).2; omega
            have HDS := Lib.hid hDs
            clear hDs
            go_wp2_with (fail)
            refine leaves_many Ds _ HA8.out.nd (fun D hD => ?_) (fun W' ho2 hs2 => ⟨.bool true, ?_, rfl, ?_⟩)
            · rw [Below.heap_setCell _ _ _ _ (fun e => HDS.out D hD e.symm)]
              exact (HA8.out.ds D hD).1
            · have hc := ho2.cell (b := rc) (o := 0) (v := .bool true) (fun hD => HDS.out _ hD rfl) (HRC9.out.cell 0 (by decide))
              simp [results, Try.f3, go_sem, hc]
            · rw [hsb]
              have hsz := HB9.out.size
              rw [hsb] at hsz
              exact ho2.below HB9.out hsz (fun D hD => by have := (HA8.out.ds D hD).2; omega)
  · rcases (show (150 : Int) < len ∧ 150 < len ∨ ¬ (150 : Int) < len ∧ ¬ 150 < len ∧ (60 : Int) < frames ∧ frames ≤ 1024 by omega) with ⟨h2, h3⟩ | ⟨h2, h3, h4, h5⟩
    · have hd2 : decide (150 < len) = true := decide_eq_true h3
      clear hin h3
      go_wp2_with (fail)
      clear hwa
      refine (known_any ok wa).mono ?_
      rintro e w4 ⟨rfl, hb⟩
      have HB4 := Lib.hid (HB0.out.trans (hb.mono HB0.out.size))
      have HRC4 := Lib.hid (HRC.out.later hb)
      clear hb
      have cr : w4.cell? ⟨w.heap.size + 1, 0, none⟩ = some (.bool false) := HRC4.out.cell 0 (by decide)
      have fr : w4.frozen? ⟨w.heap.size + 1, 0, none⟩ = false := HRC4.out.frozen 0
      have HRC5 := Lib.hid (HRC4.out.setCell 0 (.bool true))
      have HB5 := Lib.hid (HB4.out.setCell (p := ⟨w.heap.size + 1, 0, none⟩) (by show w.heap.size ≤ w.heap.size + 1; omega) (.bool true))
      go_wp2_with (fail)
      refine ⟨.bool true, ?_, rfl, HB5.out⟩
      have hc := HRC5.out.cell 0 (by decide)
      simp [results, Try.f3, go_sem, hc, updV]
    · have hd2 : decide (150 < len) = false := decide_eq_false h3
      clear hin h3
      go_wp2_with (fail)
      clear hwa
      refine (known_any ok wa).mono ?_
      rintro e w4 ⟨rfl, hb⟩
      have HB4 := Lib.hid (HB0.out.trans (hb.mono HB0.out.size))
      have HRC4 := Lib.hid (HRC.out.later hb)
      clear hb
      have cr : w4.cell? ⟨w.heap.size + 1, 0, none⟩ = some (.bool false) := HRC4.out.cell 0 (by decide)
      have fr : w4.frozen? ⟨w.heap.size + 1, 0, none⟩ = false := HRC4.out.frozen 0
      have HRC5 := Lib.hid (HRC4.out.setCell 0 (.bool true))
      have HB5 := Lib.hid (HB4.out.setCell (p := ⟨w.heap.size + 1, 0, none⟩) (by show w.heap.size ≤ w.heap.size + 1; omega) (.bool true))
      go_wp2_with (fail)
      refine ⟨.bool true, ?_, rfl, HB5.out⟩
      have hc := HRC5.out.cell 0 (by decide)
      simp [results, Try.f3, go_sem, hc, updV]
theorem lawRPlays_any (frames stop : Int) (a : Option Addr) (len cap : Nat) (O : Nat → OpA) (w : World) (hI : InI frames) (hO : OpsAt w a len O) :
    Calls Try.prog 3 #[.int .i64 frames, .slice a len cap, .int .i64 stop] w fun e w' => e = .returned (.bool true) ∧ Below w.heap.size w w' :=
  callsIn_wide.1 (lawRPlays_in ok 8 (Nat.le_refl _) frames stop a len cap O w hI hO)
end
end Go.Proofs.Ytjjcbbnnilafdaa
