/-
  The walk of RmapOrder, for whatever map.
-/
import Derived.Test.YtjjcbbnnilafdaaRmPair
import Derived.Test.YtjjcbbnnilafdaaRmOrdP
import Derived.BigRegion
import Derived.Deep.DeepCutAuto
import Derived.Deep.CutBlock
namespace Go.Proofs.Ytjjcbbnnilafdaa
open Go.RowKit Go.Shelf Go
attribute [local go_sem] Oper.semAt_some

/-- Two calls that lie in boxes of their own. -/
def TwoO (w : World) (x y : OpA) (s10 s11 : Value) (wc : World) : Prop :=
  ∃ b1 b2, s10 = .pointer (some ⟨b1, 0, none⟩) ∧ s11 = .pointer (some ⟨b2, 0, none⟩) ∧ w.heap.size ≤ b1 ∧ w.heap.size ≤ b2 ∧ Below w.heap.size w wc ∧ RowAt wc b1 4 (opV x) ∧ RowAt wc b2 4 (opV y)
theorem op_row (w : World) (x : OpA) (t : TypeId) : RowAt (w.alloc (.cells #[.int .i64 x.kind, .int .i64 x.frame, .int .i64 x.pid, .int .i64 x.page] t)) w.heap.size 4 (opV x) :=
  RowAt.new w _ _ _ _ fun i hi => by
    rcases (show i = 0 ∨ i = 1 ∨ i = 2 ∨ i = 3 by omega) with rfl | rfl | rfl | rfl <;> rfl
theorem two_1 (w : World) (x y : OpA) (t : TypeId) : TwoO w x y (.pointer (some ⟨w.heap.size, 0, none⟩)) (.pointer (some ⟨w.heap.size + 1, 0, none⟩))
    ((w.alloc (.cells #[.int .i64 x.kind, .int .i64 x.frame, .int .i64 x.pid, .int .i64 x.page] t)).alloc (.cells #[.int .i64 y.kind, .int .i64 y.frame, .int .i64 y.pid, .int .i64 y.page] t)).drew := by
  have h := op_row (w.alloc (.cells #[.int .i64 x.kind, .int .i64 x.frame, .int .i64 x.pid, .int .i64 x.page] t)) y t
  rw [World.size_alloc] at h
  exact ⟨_, _, rfl, rfl, Nat.le_refl _, by omega, ((((Below.refl _ w).alloc (Nat.le_refl _) _).alloc (by simp) _).drew), ((op_row w x t).alloc _).later (Below.refl _ _).drew, h.later (Below.refl _ _).drew⟩
theorem two_2 (w : World) (x y : OpA) (t : TypeId) : TwoO w x y (.pointer (some ⟨w.heap.size + 1, 0, none⟩)) (.pointer (some ⟨w.heap.size, 0, none⟩))
    ((w.alloc (.cells #[.int .i64 y.kind, .int .i64 y.frame, .int .i64 y.pid, .int .i64 y.page] t)).alloc (.cells #[.int .i64 x.kind, .int .i64 x.frame, .int .i64 x.pid, .int .i64 x.page] t)).drew := by
  obtain ⟨b1, b2, e1, e2, h1, h2, h3, h4, h5⟩ := two_1 w y x t
  exact ⟨b2, b1, e2, e1, h2, h1, h3, h5, h4⟩
theorem capN_gt {n : Int} (h : ¬ (40 : Int) < n) : capN n ≤ 40 := by
  unfold capN
  split
  · omega
  · split <;> omega
section
variable {IsR : Thg → Nat → Nat → (Nat → Ownr) → Prop} (ok : RmOk IsR)
include ok
set_option maxRecDepth 100000 in
set_option maxHeartbeats 8000000 in
theorem lawROrd_any (frames : Int) (a : Option Addr) (len cap : Nat) (O : Nat → OpA) (w : World) (hI : InI frames) (hO : OpsAt w a len O) :
    Calls Try.prog 6 #[.int .i64 frames, .slice a len cap] w fun e w' => e = .returned (.bool true) ∧ Below w.heap.size w w' := by
  have HO := Lib.hid hO
  clear hO
  by_cases hin : len ≤ 60 ∧ frames ≤ 40
  · obtain ⟨hl, hf⟩ := hin
    have hlI : ¬ (60 : Int) < len := by omega
    have hd1 : decide ((60 : Int) < (len : Int)) = false := decide_eq_false hlI
    have hd2 : decide (60 < len) = false := decide_eq_false (by omega)
    have hfI : ¬ (40 : Int) < frames := by omega
    have HF40 := Lib.hid hfI
    go_enter Try.func6, Try.ntmps6
    go_wp2_with (fail)
    clear hfI hf hd1 hd2
    go_loopw [29] (fun iv wr => ∃ i : Nat, iv = .int .i64 i ∧ i ≤ len ∧ Hid (DstO O i) ∧ Hid (Below w.heap.size w wr)) (fun iv _ => len - (intOf iv).toNat)
    case atStart => exact ⟨0, rfl, Nat.zero_le _, Lib.hid (fun _ _ h => absurd h (Nat.not_lt_zero _)), Lib.hid (Below.refl _ _)⟩
    case round =>
      obtain ⟨i, rfl, hi, HD, HB⟩ := hrel
      by_cases hlt : i < len
      · have hiI : (i : Int) < len := by omega
        go_wp2_with (fail)
        go_loopw [33] (fun iv wr => ∃ k : Nat, iv = .int .i64 k ∧ k ≤ i ∧ Hid (∀ j, j < k → NeO (O i) (O j)) ∧ Hid (Below w.heap.size w wr)) (fun iv _ => i - (intOf iv).toNat)
        case atStart => exact ⟨0, rfl, Nat.zero_le _, Lib.hid (fun _ h => absurd h (Nat.not_lt_zero _)), HB⟩
        case round =>
          clear HB
          rename World => wk
          obtain ⟨k, rfl, hk, HN, HB⟩ := hrel
          by_cases hlk : k < i
          · have hkI : (k : Int) < i := by omega
            have hkI2 : (k : Int) < len := by omega
            obtain ⟨gi, oi, rfl, _, _, hcI⟩ := HO.out.one i hlt
            obtain ⟨gk, ok2, e2, _, _, hcK⟩ := HO.out.one k (by omega)
            cases e2
            obtain ⟨a0, a1, a2, a3⟩ := hcI wk HB.out
            obtain ⟨b0, b1, b2, b3⟩ := hcK wk HB.out
            clear hcI hcK a0 b0
            by_cases hfr : (O i).frame = (O k).frame
            · rw [hfr] at a1
              clear HN
              go_wp2_with (fail)
              go_quiet (fail)
              have HB2 := Lib.hid (below_drewN HB.out nq)
              go_wp2_with (fail)
              refine (known_any ok _).mono ?_
              rintro e w4 ⟨rfl, hb⟩
              have HB4 := Lib.hid (HB2.out.trans (hb.mono HB2.out.size))
              clear hb
              go_wp2_with (fail)
              go_ret
              exact ⟨rfl, HB4.out⟩
            · have hfI : ((O i).frame == (O k).frame) = false := by simp; exact hfr
              by_cases hpd : (O i).pid = (O k).pid
              · by_cases hpg : (O i).page = (O k).page
                · rw [hpd] at a2
                  rw [hpg] at a3
                  clear HN
                  go_wp2_with (fail)
                  go_quiet (fail)
                  have HB2 := Lib.hid (below_drewN HB.out nq)
                  go_wp2_with (fail)
                  refine (known_any ok _).mono ?_
                  rintro e w4 ⟨rfl, hb⟩
                  have HB4 := Lib.hid (HB2.out.trans (hb.mono HB2.out.size))
                  clear hb
                  go_wp2_with (fail)
                  go_ret
                  exact ⟨rfl, HB4.out⟩
                · have hgI : ((O i).page == (O k).page) = false := by simp; exact hpg
                  rw [hpd] at a2
                  have HN2 := Lib.hid (show ∀ j, j < k + 1 → NeO (O i) (O j) from fun j hj => by
                    by_cases e : j = k
                    · rw [e]; exact ⟨hfr, fun h => hpg h.2⟩
                    · exact HN.out j (by omega))
                  clear HN
                  go_wp2_with (fail)
                  go_quiet (fail)
                  have HB2 := Lib.hid (below_drewN HB.out nq)
                  go_wp2_with (fail)
                  go_roundw
                  case rel => exact ⟨k + 1, by go_num, hlk, HN2, HB2⟩
                  case measure => simp [intOf]; omega
              · have hpI : ((O i).pid == (O k).pid) = false := by simp; exact hpd
                have HN2 := Lib.hid (show ∀ j, j < k + 1 → NeO (O i) (O j) from fun j hj => by
                  by_cases e : j = k
                  · rw [e]; exact ⟨hfr, fun h => hpd h.1⟩
                  · exact HN.out j (by omega))
                clear HN
                go_wp2_with (fail)
                go_quiet (fail)
                have HB2 := Lib.hid (below_drewN HB.out nq)
                go_wp2_with (fail)
                go_roundw
                case rel => exact ⟨k + 1, by go_num, hlk, HN2, HB2⟩
                case measure => simp [intOf]; omega
          · obtain rfl : k = i := by omega
            have HD2 := Lib.hid (show DstO O (k + 1) from fun i j hi hj => by
              by_cases e : i = k
              · rw [e]; exact HN.out j (by omega)
              · exact HD.out i j (by omega) hj)
            clear HN HD
            go_wp2_with (fail)
            go_roundw
            case rel => exact ⟨k + 1, by go_num, hlt, HD2, HB⟩
            case measure => simp [intOf]; omega
      · obtain rfl : i = len := by omega
        go_wp2_with (fail)
        obtain ⟨N, hN⟩ : ∃ N, capN frames = N := ⟨_, rfl⟩
        have HN40 := Lib.hid (show N ≤ 40 from by rw [← hN]; exact capN_gt (Int.not_lt.2 HF40.out))
        refine (ok.new wr frames hI).mono ?_
        rintro e w1 ⟨d, Y, rfl, hY, hT⟩
        rw [hN] at hY
        have HK1 := Lib.hid (KPT.new (Is := fun X => IsR X d N (fun _ => (0, 0))) hY hT)
        have HBw := Lib.hid (HB.out.trans (HK1.out.bel.mono HB.out.size))
        clear hY hT
        go_wp2_with (fail)
        refine (new_p2 ok HK1.out frames hI hN).mono ?_
        rintro e w2 ⟨d2, rfl, hk⟩
        have HK2 := Lib.hid hk
        clear hk HK1 HBw hN
        go_wp2_with (fail)
        go_loopw [82] (fun iv wl => ∃ k : Nat, iv = .int .i64 k ∧ k ≤ i ∧ Hid (KPT (P2 IsR d N (ordF O N (fun j => j < k)) d2 (ordF O N (fun j => i - k ≤ j ∧ j < i))) wr (fun _ => False) wl)) (fun iv _ => i - (intOf iv).toNat)
        case atStart =>
          refine ⟨0, rfl, Nat.zero_le _, ?_⟩
          rw [ordF_ext (S' := fun _ => False) (fun j => ⟨fun h => by omega, fun h => h.elim⟩), ordF_ext (S := fun j => i - 0 ≤ j ∧ j < i) (S' := fun _ => False) (fun j => ⟨fun h => by omega, fun h => h.elim⟩), ordF_none]
          exact HK2
        case round =>
          clear HK2
          rename World => wl
          obtain ⟨k, rfl, hk, HK⟩ := hrel
          by_cases hlk : k < i
          · have hkI : (k : Int) < i := by omega
            obtain ⟨m, hm⟩ : ∃ m : Nat, i - 1 - k = m := ⟨_, rfl⟩
            have hmI : (i : Int) - 1 - (k : Int) = (m : Int) := by omega
            have hmlt : m < i := by omega
            have hmI2 : (m : Int) < i := by omega
            have HBl := Lib.hid (HB.out.trans (HK.out.bel.mono HB.out.size))
            obtain ⟨gi, oi, rfl, hgw, hok1, hcI⟩ := HO.out.one k hlk
            obtain ⟨gk, oo, e2, _, hok2, hcK⟩ := HO.out.one m hmlt
            cases e2
            obtain ⟨a0, a1, a2, a3⟩ := hcI wl HBl.out
            obtain ⟨b0, b1, b2, b3⟩ := hcK wl HBl.out
            have hlt1 : gi < wl.heap.size := by have := HBl.out.size; omega
            have hlt2 : gi < wl.heap.size + 1 := by omega
            clear hcI hcK
            go_wp2_with (fail)
            go_upto_region 17 with (fail)
            go_cut [10, 11] (fun s10 s11 wc => TwoO wl (O k) (O m) s10 s11 wc)
            case first =>
              go_region
              all_goals
                go_wp2_with (fail)
                go_meet
                first | exact two_1 wl (O k) (O m) _ | exact two_2 wl (O k) (O m) _
            case rest =>
              obtain ⟨x1, x2, rfl, rfl, hx1, hx2, hb, hr1, hr2⟩ := hcut
              have HKc := Lib.hid (HK.out.add (Q := fun j => j = x1 ∨ j = x2) hb (fun j hj => .inr (by
                rcases hj with rfl | rfl
                · exact ⟨hx1, hr1.lt⟩
                · exact ⟨hx2, hr2.lt⟩)))
              have HR1 := Lib.hid hr1
              have HR2 := Lib.hid hr2
              have c1 : wc.cell? ⟨x1, 1, none⟩ = some (.int .i64 (O k).frame) := hr1.cell 1 (by decide)
              have c2 : wc.cell? ⟨x1, 2, none⟩ = some (.int .i64 (O k).pid) := hr1.cell 2 (by decide)
              have c3 : wc.cell? ⟨x1, 3, none⟩ = some (.int .i64 (O k).page) := hr1.cell 3 (by decide)
              clear a0 a1 a2 a3 b0 b1 b2 b3 hlt1 hlt2 hr1 hr2 hb hx1 hx2 HK hmI2
              have HA := Lib.hid (ord_set (N := N) HD.out (S := fun j => j < k) (fun j hj => by omega) k hlk (by omega))
              have HE := Lib.hid (show (fun j => j < k ∨ j = k) = (fun j => j < k + 1) from funext fun j => propext ⟨fun h => by omega, fun h => by omega⟩)
              have HG := Lib.hid (ord_set (N := N) HD.out (S := fun j => i - k ≤ j ∧ j < i) (fun j hj => hj.2) m hmlt (by omega))
              have HE2 := Lib.hid (show (fun j => (i - k ≤ j ∧ j < i) ∨ j = m) = (fun j => i - (k + 1) ≤ j ∧ j < i) from funext fun j => propext ⟨fun h => by omega, fun h => by omega⟩)
              rw [HE.out] at HA
              generalize (if ValO N (O k) then (0 : Int) else 2) = ca at HA
              have HBK := Lib.hid (ord_back (N := N) HD.out (S := fun j => i - k ≤ j ∧ j < i) (fun j hj => hj.2) m hmlt (by omega))
              rw [HE2.out] at HG HBK
              clear HE HE2 hmlt hmI hm
              go_wp2_with (fail)
              refine (set_p1 ok HKc.out (O k).frame (O k).pid (O k).page hok1.1 hok1.2.1 hok1.2.2 _ _ HA.out.1 HA.out.2).mono ?_
              rintro e wd ⟨rfl, hk, ho⟩
              have HKd := Lib.hid hk
              have HR3 := Lib.hid (HR2.out.only ho (fun h => h (.inr rfl)))
              clear hk ho HKc c1 c2 c3 HR1 HR2 HA
              have c1 : wd.cell? ⟨x2, 1, none⟩ = some (.int .i64 (O m).frame) := HR3.out.cell 1 (by decide)
              have c2 : wd.cell? ⟨x2, 2, none⟩ = some (.int .i64 (O m).pid) := HR3.out.cell 2 (by decide)
              have c3 : wd.cell? ⟨x2, 3, none⟩ = some (.int .i64 (O m).page) := HR3.out.cell 3 (by decide)
              go_wp2_with (fail)
              refine (set_p2 ok HKd.out (O m).frame (O m).pid (O m).page hok2.1 hok2.2.1 hok2.2.2 _ _ HG.out.1 HG.out.2).mono ?_
              rintro e we ⟨rfl, hk, ho⟩
              have HKe := Lib.hid hk
              have HR4 := Lib.hid (HR3.out.only ho (fun h => h (.inr rfl)))
              clear hk ho HKd c1 c2 c3 HR3
              by_cases hv : ValO N (O m)
              · rw [if_pos hv] at HG ⊢
                have HBK := Lib.hid (HBK.out hv)
                have c1 : we.cell? ⟨x2, 1, none⟩ = some (.int .i64 (O m).frame) := HR4.out.cell 1 (by decide)
                clear hv
                go_wp2_with (fail)
                refine (clear_p2 ok HKe.out (O m).frame hok2.1 _ _ HBK.out.1 HBK.out.2).mono ?_
                rintro e wf ⟨rfl, hk, ho⟩
                have HKf := Lib.hid hk
                have HR5 := Lib.hid (HR4.out.only ho (fun h => h (.inr rfl)))
                clear hk ho HKe c1 HR4
                have c1 : wf.cell? ⟨x2, 1, none⟩ = some (.int .i64 (O m).frame) := HR5.out.cell 1 (by decide)
                have c2 : wf.cell? ⟨x2, 2, none⟩ = some (.int .i64 (O m).pid) := HR5.out.cell 2 (by decide)
                have c3 : wf.cell? ⟨x2, 3, none⟩ = some (.int .i64 (O m).page) := HR5.out.cell 3 (by decide)
                go_wp2_with (fail)
                refine (set_p2 ok HKf.out (O m).frame (O m).pid (O m).page hok2.1 hok2.2.1 hok2.2.2 _ _ HG.out.1 HG.out.2).mono ?_
                rintro e wg ⟨rfl, hk, ho⟩
                have HKg := Lib.hid (hk.add (Q := fun _ => False) (Below.refl _ _) (fun _ h => h.elim))
                clear hk ho HKf c1 c2 c3 HR5
                go_wp2_with (fail)
                go_roundw
                case rel => exact ⟨k + 1, by go_num, hlk, HKg⟩
                case measure => simp [intOf]; omega
              · rw [if_neg hv] at HG ⊢
                have HKg := Lib.hid (HKe.out.add (Q := fun _ => False) (Below.refl _ _) (fun _ h => h.elim))
                clear hv HKe
                go_wp2_with (fail)
                go_roundw
                case rel => exact ⟨k + 1, by go_num, hlk, HKg⟩
                case measure => simp [intOf]; omega
          · obtain rfl : k = i := by omega
            rw [ordF_ext (S := fun j => k - k ≤ j ∧ j < k) (S' := fun j => j < k) (fun j => ⟨fun h => h.2, fun h => ⟨by omega, h⟩⟩)] at HK
            obtain ⟨g, hg⟩ : ∃ g, ordF O N (fun j => j < k) = g := ⟨_, rfl⟩
            rw [hg] at HK
            clear hg
            go_wp2_with (fail)
            refine (frames_rk ok HK.out.of_two.1.rk).mono ?_
            rintro e w5 ⟨rfl, hb⟩
            have HK5 := Lib.hid (HK.out.later hb)
            clear hb HK
            go_wp2_with (fail)
            go_loopw [135] (fun iv wx => ∃ j : Nat, iv = .int .i64 j ∧ j ≤ N ∧ Hid (KPT (P2 IsR d N g d2 g) wr (fun _ => False) wx)) (fun iv _ => N - (intOf iv).toNat)
            case atStart => exact ⟨0, rfl, Nat.zero_le _, HK5⟩
            case round =>
              clear HK5
              rename World => wx
              obtain ⟨j, rfl, hj, HK⟩ := hrel
              by_cases hlj : j < N
              · have b1 := HN40.out
                obtain ⟨⟨p, q⟩, hpq⟩ : ∃ x, rgO g N (j : Int) = x := ⟨_, rfl⟩
                have HPQ := Lib.hid hpq
                obtain ⟨b, hb⟩ : ∃ b, decide (p ≠ 0) = b := ⟨_, rfl⟩
                have HBB := Lib.hid hb
                clear hpq hb
                go_wp2_with (fail)
                refine (get_rk ok HK.out.of_two.1.rk j ⟨by omega, by omega⟩ p q b HPQ.out HBB.out).mono ?_
                rintro e w6 ⟨rfl, hb⟩
                have HK6 := Lib.hid (HK.out.later hb)
                clear hb HK
                go_wp2_with (fail)
                refine (get_rk ok HK6.out.of_two.2.rk j ⟨by omega, by omega⟩ p q b HPQ.out HBB.out).mono ?_
                rintro e w7 ⟨rfl, hb⟩
                have HK7 := Lib.hid (HK6.out.later hb)
                clear hb HK6
                go_wp2_with (fail)
                go_roundw
                case rel => exact ⟨j + 1, by go_num, hlj, HK7⟩
                case measure => simp [intOf]; omega
              · obtain rfl : j = N := by omega
                go_wp2_with (fail)
                refine (frames_rk ok HK.out.of_two.1.rk).mono ?_
                rintro e w6 ⟨rfl, hb⟩
                have HK6 := Lib.hid (HK.out.later hb)
                clear hb HK
                go_wp2_with (fail)
                refine (frames_rk ok HK6.out.of_two.2.rk).mono ?_
                rintro e w7 ⟨rfl, hb⟩
                have HK7 := Lib.hid (HK6.out.later hb)
                clear hb HK6
                go_wp2_with (fail)
                refine (known_any ok _).mono ?_
                rintro e w8 ⟨rfl, hb⟩
                have HB8 := Lib.hid (HB.out.trans ((HK7.out.later hb).bel.mono HB.out.size))
                clear hb HK7
                go_wp2_with (fail)
                go_ret
                exact ⟨rfl, HB8.out⟩
  · rcases (show (60 : Int) < len ∧ 60 < len ∨ ¬ (60 : Int) < len ∧ ¬ 60 < len ∧ (40 : Int) < frames by omega) with ⟨h1, h2⟩ | ⟨h1, h2, h3⟩
    · have hd2 : decide (60 < len) = true := decide_eq_true h2
      clear hin h2
      go_enter Try.func6, Try.ntmps6
      go_wp2_with (fail)
      refine (known_any ok _).mono ?_
      rintro e w8 ⟨rfl, hb⟩
      go_wp2_with (fail)
      go_ret
      exact ⟨rfl, hb⟩
    · have hd2 : decide (60 < len) = false := decide_eq_false h2
      clear hin h2
      go_enter Try.func6, Try.ntmps6
      go_wp2_with (fail)
      refine (known_any ok _).mono ?_
      rintro e w8 ⟨rfl, hb⟩
      go_wp2_with (fail)
      go_ret
      exact ⟨rfl, hb⟩
end
end Go.Proofs.Ytjjcbbnnilafdaa
