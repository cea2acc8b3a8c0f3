/-
  The walk of ClockTouched, for whatever clock. (Printed by tools/gen-clocktouched.py.)
-/
import Derived.Test.YtndddfkebbeemaaClGrow
import Derived.Test.YtndddfkebbeemaaClTouP
import Derived.Test.YtndddfkebbeemaaBuInts
import Derived.Test.YtndddfkebbeemaaClApp
import Derived.BigQuiet
namespace Go.Proofs.Ytndddfkebbeemaa
open Go.RowKit Go.Shelf Go
attribute [local go_sem] Oper.semAt_some

/-- The clock, and the boxed list of those that were touched. -/
structure TuAt (IsC : Thg → Nat → List Fr → Prop) (w : World) (d : Nat) (L : List Fr) (b : Nat) (v : Value) (M : List Nat) (W : World) : Prop where
  kp : KPT (fun X => IsC X d L) w (fun k => k = b ∨ v.ownBlock = some k) W
  bx : BxL w b v M W
section
variable {IsC : Thg → Nat → List Fr → Prop} {w W W' : World} {d b : Nat} {L L2 : List Fr} {v : Value} {M : List Nat}
/-- Two boxes with the range's answers. -/
structure TvI (W0 : World) (ba bo : Nat) (A B : Bool) (W : World) : Prop where
  al : RowAt W ba 1 (fun _ => .bool A)
  ow : RowAt W bo 1 (fun _ => .bool B)
  only : Only (fun k => k = ba ∨ k = bo) W0 W
theorem tv_own {β : Type} {W0 : World} {ba bo : Nat} {A B : β → Bool} (h1 : ba < W0.heap.size) (h2 : bo < W0.heap.size) : OwnFrom W0.heap.size (fun (s : β) W => TvI W0 ba bo (A s) (B s) W) := fun s X Y row i hg hr => by
  have hne : ∀ k, k < W0.heap.size → some k ≠ row := fun k hk e => by have := (hr k e.symm).1; omega
  exact ⟨i.al.block (hg.block ba i.al.lt (hne _ h1)), i.ow.block (hg.block bo i.ow.lt (hne _ h2)),
    ⟨hg.os.trans i.only.os, hg.tape.trans i.only.tape, hg.output.trans i.only.output, Nat.le_trans i.only.size hg.size, fun k hk hs => (hg.block k (Nat.lt_of_lt_of_le hk i.only.size) (hne k hk)).trans (i.only.block k hk hs)⟩⟩
theorem tv_set {W : World} {b : Nat} {x : Bool} (R : RowAt W b 1 (fun _ => .bool x)) (y : Bool) : RowAt (W.setCell ⟨b, 0, none⟩ (.bool y)) b 1 (fun _ => .bool y) :=
  (R.setCell 0 _).ext fun i hi => by
    obtain rfl : i = 0 := by omega
    simp [updV]
theorem tv_new (W : World) (x : Bool) (t : TypeId) : RowAt (W.alloc (.cells #[.bool x] t)) W.heap.size 1 (fun _ => .bool x) := RowAt.new W _ _ _ _ fun i hi => by
  obtain rfl : i = 0 := by omega
  rfl
theorem tv_step {W0 W : World} {ba : Nat} {A B : Bool} (h : TvI W0 ba (ba + 1) A B W) (A' B' : Bool) : TvI W0 ba (ba + 1) A' B' ((W.setCell ⟨ba, 0, none⟩ (.bool A')).setCell ⟨ba + 1, 0, none⟩ (.bool B')) := by
  have o1 := Only.setCell (S := fun k => k = ba) W ⟨ba, 0, none⟩ rfl (.bool A')
  have o2 := Only.setCell (S := fun k => k = ba + 1) (W.setCell ⟨ba, 0, none⟩ (.bool A')) ⟨ba + 1, 0, none⟩ rfl (.bool B')
  exact ⟨(tv_set h.al A').only o2 (by omega), tv_set (h.ow.only o1 (by omega)) B', (h.only.trans (o1.mono fun _ h => .inl h)).trans (o2.mono fun _ h => .inr h)⟩
theorem decide_take {M : List Nat} {k y z : Nat} (h : M[k]? = some z) : decide (y ∈ M.take (k + 1)) = (decide (y ∈ M.take k) || decide (z = y)) := by
  rw [← take_snoc h]
  by_cases e : z = y
  · subst e; simp
  · have e2 : ¬ y = z := fun h => e h.symm
    simp [e, e2]
theorem TuAt.later (h : TuAt IsC w d L b v M W) (hb : Below W.heap.size W W') : TuAt IsC w d L b v M W' := ⟨h.kp.later hb, h.bx.later hb⟩
theorem TuAt.turn (h : TuAt IsC w d L b v M W) (hk : KPT (fun X => IsC X d L2) w (fun k => k = b ∨ v.ownBlock = some k) W') (ho : Only (fun k => ¬ (k = b ∨ v.ownBlock = some k)) W W') : TuAt IsC w d L2 b v M W' :=
  ⟨hk, h.bx.only ho (fun h => h (.inl rfl)) (fun _ hk h => h (.inr hk))⟩
end
section
variable {IsC : Thg → Nat → List Fr → Prop} (ok : ClOk IsC)
include ok
set_option maxRecDepth 100000 in
set_option maxHeartbeats 16000000 in
theorem lawCTouched_in (q : Nat) (hm : 8 ≤ q) (a : Option Addr) (len cap : Nat) (O : Nat → OpA) (ta : Option Addr) (tlen tcap : Nat) (z : Nat → Int) (w : World) (hO : OpsAt w a len O) (hZ : IntsIn w ta tlen z) :
    CallsIn Fence.wide q Try.prog 4 #[.slice a len cap, .slice ta tlen tcap] w fun e w' => e = .returned (.bool true) ∧ Below w.heap.size w w' := by
  have h1 : 1 ≤ q := by omega
  have HO := Lib.hid hO
  have HZ := Lib.hid hZ
  clear hO hZ
  obtain ⟨i0, hi0, hz0, hz1, hz2⟩ := info_parts infoIntC
  refine callsIn_of_wp_marks Try.func4 rfl trivial ?_ rfl
  simp only [Try.ntmps4, List.size_toArray, List.length_cons, List.length_nil, Nat.reduceAdd, Nat.reduceSub, Array.replicate_succ, Array.replicate_zero, List.push_toArray, List.append_toArray, List.nil_append, List.cons_append]
  refine wpIn_wide.2 ?_
  by_cases hin : len ≤ 100
  · have hlI : ¬ (100 : Int) < len := by omega
    have hdl : decide ((100 : Int) < (len : Int)) = false := decide_eq_false hlI
    have hdl2 : decide (100 < len) = false := decide_eq_false (by omega)
    by_cases htin : tlen ≤ 100
    · have htI : ¬ (100 : Int) < tlen := by omega
      go_wp2_with (fail)
      refine (new_cl ok w).mono ?_
      rintro e w1 ⟨d, rfl, hK⟩
      have HK1 := Lib.hid hK
      clear hK hdl hdl2
      go_wp2_with (fail)
      go_loopw [29] (fun iv wr => ∃ (k : Nat) (L : List Fr), iv = .int .i64 k ∧ k ≤ len ∧ L.length ≤ k ∧ Hid (KPT (fun X => IsC X d L) w (fun _ => False) wr)) (fun iv _ => len - (intOf iv).toNat)
      case atStart => exact ⟨0, [], rfl, Nat.zero_le _, Nat.le_refl _, HK1⟩
      case round =>
        clear HK1
        obtain ⟨k, L, rfl, hk, hLk, HK⟩ := hrel
        by_cases hlk : k < len
        · have hkI : (k : Int) < len := by omega
          obtain ⟨gi, oi, rfl, _, hok, hcI⟩ := HO.out.one k hlk
          obtain ⟨a0, a1⟩ := hcI wr HK.out.bel
          clear hcI
          generalize O k = op at a0 a1 hok
          obtain ⟨kind, frame⟩ := op
          dsimp only at a0 a1 hok
          have hL1 : L.length < 1000 := by omega
          by_cases h1 : kind = 1
          · subst h1
            go_wp2_with (fail)
            refine (remove_cl ok HK.out frame hok _ _ rfl rfl).mono ?_
            rintro e w2 ⟨rfl, hk2, _⟩
            have HK2 := Lib.hid hk2
            have hLn : (remL L frame).length ≤ k + 1 := by have := remL_len L frame; omega
            generalize remL L frame = L2 at hLn HK2
            clear hk2 HK a0 a1
            go_wp2_with (fail)
            go_roundw
            case rel => exact ⟨k + 1, L2, by go_num, hlk, hLn, HK2⟩
            case measure => simp [intOf]; omega
          · have hb1 : (kind == 1) = false := by simp; exact h1
            by_cases h2 : kind = 2
            · subst h2
              go_wp2_with (fail)
              refine (touch_cl ok HK.out frame hok _ _ rfl rfl).mono ?_
              rintro e w2 ⟨rfl, hk2, _⟩
              have HK2 := Lib.hid hk2
              have hLn : (touL L frame).length ≤ k + 1 := by have := touL_len L frame; omega
              generalize touL L frame = L2 at hLn HK2
              clear hk2 HK a0 a1
              go_wp2_with (fail)
              go_roundw
              case rel => exact ⟨k + 1, L2, by go_num, hlk, hLn, HK2⟩
              case measure => simp [intOf]; omega
            · have hb2 : (kind == 2) = false := by simp; exact h2
              by_cases h3 : kind = 3
              · subst h3
                go_wp2_with (fail)
                refine (next_cl ok HK.out (nextL L).1.1 (nextL L).1.2 (nextL L).2 rfl).mono ?_
                rintro e w2 ⟨rfl, hk2, _⟩
                have HK2 := Lib.hid hk2
                have hLn : ((nextL L).2).length ≤ k + 1 := by have := nextL_len L; omega
                generalize (nextL L).2 = L2 at hLn HK2
                clear hk2 HK a0 a1
                go_wp2_with (fail)
                go_roundw
                case rel => exact ⟨k + 1, L2, by go_num, hlk, hLn, HK2⟩
                case measure => simp [intOf]; omega
              · have hb3 : (kind == 3) = false := by simp; exact h3
                go_wp2_with (fail)
                refine (add_cl ok HK.out frame hok hL1 _ _ rfl rfl).mono ?_
                rintro e w2 ⟨rfl, hk2, _⟩
                have HK2 := Lib.hid hk2
                have hLn : (addL L frame).length ≤ k + 1 := by have := addL_len L frame; omega
                generalize addL L frame = L2 at hLn HK2
                clear hk2 HK a0 a1
                go_wp2_with (fail)
                go_roundw
                case rel => exact ⟨k + 1, L2, by go_num, hlk, hLn, HK2⟩
                case measure => simp [intOf]; omega
        · obtain rfl : k = len := by omega
          obtain ⟨n, hn⟩ : ∃ n, L.length = n := ⟨_, rfl⟩
          have hn100 : n ≤ 100 := by omega
          have HC := Lib.hid (len_cl ok HK.out)
          rw [hn] at HC
          go_wp2_with (fail)
          refine HC.out.mono ?_
          rintro e w2 ⟨rfl, hb⟩
          have HK2 := Lib.hid (show KPT (fun X => IsC X d (nexts 0 L)) w (fun _ => False) w2 from HK.out.later hb)
          clear hb HK HC hLk hk
          go_wp2_with (fail)
          go_loopw [71] (fun iv wx => ∃ i : Nat, iv = .int .i64 i ∧ i ≤ 3 * n ∧ Hid (KPT (fun X => IsC X d (nexts i L)) w (fun _ => False) wx)) (fun iv _ => 3 * n - (intOf iv).toNat)
          case atStart => exact ⟨0, rfl, Nat.zero_le _, HK2⟩
          case round =>
            clear HK2
            rename World => wx
            obtain ⟨i, rfl, hi, HK⟩ := hrel
            by_cases hli : i < 3 * n
            · have hiI : (i : Int) < 3 * (n : Int) := by omega
              obtain ⟨x, hx⟩ := next_one (L := L) (by omega) i
              have HC := Lib.hid (next_cl ok HK.out x true _ hx)
              clear hx
              go_wp2_with (fail)
              refine HC.out.mono ?_
              rintro e w3 ⟨rfl, hk3, _⟩
              have HK3 := Lib.hid hk3
              clear hk3 HK HC
              go_wp2_with (fail)
              go_roundw
              case rel => exact ⟨i + 1, by go_num, hli, HK3⟩
              case measure => simp [intOf]; omega
            · obtain rfl : i = 3 * n := by omega
              have HQ := Lib.hid (nexts_quiet L (3 * n) (by omega))
              have HQL := Lib.hid ((nexts_len (3 * n) L).trans hn)
              have HCI := Lib.hid (KPT.inv_cl ok HK.out)
              clear hi hli hn
              generalize nexts (3 * n) L = Q at *
              go_wp2_with (fail)
              obtain ⟨b0, hb0⟩ : ∃ b0, wx.heap.size = b0 := ⟨_, rfl⟩
              obtain ⟨W0, hW0⟩ : ∃ W0, wx.alloc (.cells #[.slice none 0 0] TIs) = W0 := ⟨_, rfl⟩
              have hbw : Below wx.heap.size wx W0 := by rw [← hW0]; exact (Below.refl _ _).alloc (Nat.le_refl _) _
              have hs0 : W0.heap.size = b0 + 1 := by rw [← hW0, ← hb0]; simp
              have HLO := Lib.hid (show w.heap.size ≤ b0 from by rw [← hb0]; exact HK.out.bel.size)
              have HU0 := Lib.hid (show TuAt IsC w d Q b0 (.slice none 0 0) [] W0 from ⟨HK.out.add hbw (fun k hk => by
                rcases hk with h | h
                · exact .inr ⟨by omega, by omega⟩
                · cases h), by rw [← hW0, ← hb0]; exact Boxed.new wx _ _, World.ownsRow_nil _ _ _ _, HLO.out⟩)
              have HTI := Lib.hid (TouI.nil HQ.out)
              clear hbw HK
              rw [hW0]
              clear hW0 hs0
              subst hb0
              generalize wx.heap.size = bb at *
              go_loopw [78] (fun iv wx => ∃ (k : Nat) (L : List Fr) (v : Value) (M : List Nat), iv = .int .i64 k ∧ k ≤ tlen ∧ M.length ≤ k ∧ L.length = n ∧ Hid (TouI L M) ∧ Hid (TuAt IsC w d L bb v M wx)) (fun iv _ => tlen - (intOf iv).toNat)
              case atStart => exact ⟨0, Q, _, [], rfl, Nat.zero_le _, Nat.le_refl _, HQL.out, HTI, HU0⟩
              case round =>
                clear HU0 HTI HQ HQL HCI
                rename World => wy
                obtain ⟨k2, L, v, M, rfl, hk2, hMk, hLn, HTI, HU⟩ := hrel
                by_cases hlk2 : k2 < tlen
                · have hkI2 : (k2 : Int) < tlen := by omega
                  obtain ⟨tb, tf, rfl, htb, hzI, hct⟩ := HZ.out.one k2 hlk2
                  have ct := hct wy HU.out.kp.bel
                  have HCT := Lib.hid hct
                  generalize z k2 = x at *
                  clear hct
                  cases hh : hasL L x with
                  | false =>
                    obtain ⟨t1, t2⟩ := tou_no hh
                    have HC := Lib.hid (touch_cl ok HU.out.kp x hzI 7 L t1 t2)
                    clear hh t1 t2
                    go_wp2_with (fail)
                    refine HC.out.mono ?_
                    rintro e w3 ⟨rfl, hk3, ho⟩
                    have HU3 := Lib.hid (HU.out.turn hk3 ho)
                    clear hk3 ho HC HU ct
                    go_wp2_with (fail)
                    go_roundw
                    case rel => exact ⟨_, _, _, _, _, _, _, _, _, _, _, _, _, _, _, _, _, _, _, ⟨k2 + 1, L, v, M, rfl, hlk2, by omega, hLn, HTI, HU3⟩, rfl⟩
                    case measure => simp [intOf]; omega
                  | true =>
                    have hx0 : 0 ≤ x := (of_decide_eq_true hh).1
                    have hno : noE L x = 0 := by unfold noE; rw [hh]; rfl
                    have HC := Lib.hid (touch_cl ok HU.out.kp x hzI 0 _ hno rfl)
                    have HTI2 := Lib.hid (HTI.out.touch hh)
                    have hLn2 : (touL L x).length = n := (touL_len L x).trans hLn
                    generalize touL L x = L2 at *
                    obtain ⟨xn, rfl⟩ : ∃ xn : Nat, x = xn := ⟨x.toNat, by omega⟩
                    rw [Int.toNat_natCast] at HTI2
                    clear hh hno HTI
                    go_wp2_with (fail)
                    refine HC.out.mono ?_
                    rintro e w3 ⟨rfl, hk3, ho⟩
                    have HU3 := Lib.hid (HU.out.turn hk3 ho)
                    clear hk3 ho HC HU ct
                    go_wp2_with (fail)
                    have LB := Lib.hid (fun W (hW : Only (fun k => v.ownBlock = some k) w3 W) => run_loadVar_cell (P := Try.prog) (ty := TIs) (p := ⟨bb, 0, none⟩) (v := v) (W := W) (fun w => by kernel_rfl) (hW.cell (fun e => HU3.out.bx.box.not_row hteI HU3.out.bx.row e.symm) HU3.out.bx.box.cell))
                    have LT := Lib.hid (fun W (hW : Only (fun k => v.ownBlock = some k) w3 W) => run_loadVar_cell (P := Try.prog) (ty := TIn) (p := ⟨tb, tf + k2, none⟩) (v := .int .i64 xn) (W := W) (fun w => by kernel_rfl) (HCT.out W (hW.below HU3.out.kp.bel HU3.out.kp.bel.size (fun k hk => (HU3.out.bx.row.lt k hk).1))))
                    refine wp_region_lexF (fun W => Only (fun k => v.ownBlock = some k) w3 W) [(0, false), (1, false), (2, false), (3, false), (4, false), (5, true), (6, true)] 7 (by kernel_rfl) (by kernel_rfl) rfl (by kernel_rfl) ⟨rfl, rfl, rfl, Nat.le_refl _, fun _ _ _ => rfl⟩ ?_
                    intro V0 hV0 hOV
                    have hbd : Below w3.heap.size w3 V0 := by rw [hV0]; exact ⟨rfl, rfl, rfl, Nat.le_refl _, fun _ _ => rfl⟩
                    have HU4 := Lib.hid (HU3.out.later hbd)
                    have HOV := Lib.hid hOV
                    clear hV0 hbd hOV
                    refine lexH_load rfl rfl _ _ rfl rfl LB.out ?_
                    simp only [List.getElem_toArray, List.getElem_cons_zero, Act.put, List.setIfInBounds_toArray, List.set_cons_zero, List.set_cons_succ]
                    refine lexH_yieldE rfl rfl ?_
                    apply Exists.intro
                    refine ⟨fun W hW => ?_, ?_⟩
                    focus (go_simp; exact rfl)
                    simp only [List.getElem_toArray, List.getElem_cons_succ, List.getElem_cons_zero, Act.put, List.setIfInBounds_toArray, List.set_cons_zero, List.set_cons_succ]
                    refine lexH_yieldE rfl rfl ?_
                    apply Exists.intro
                    refine ⟨fun W hW => ?_, ?_⟩
                    focus (go_simp; exact rfl)
                    simp only [List.getElem_toArray, List.getElem_cons_succ, List.getElem_cons_zero, Act.put, List.setIfInBounds_toArray, List.set_cons_zero, List.set_cons_succ]
                    refine lexH_yieldE rfl rfl ?_
                    apply Exists.intro
                    refine ⟨fun W hW => ?_, ?_⟩
                    focus (go_simp; exact rfl)
                    simp only [List.getElem_toArray, List.getElem_cons_succ, List.getElem_cons_zero, Act.put, List.setIfInBounds_toArray, List.set_cons_zero, List.set_cons_succ]
                    refine lexH_load rfl rfl _ _ rfl rfl LT.out ?_
                    simp only [List.getElem_toArray, List.getElem_cons_succ, List.getElem_cons_zero, Act.put, List.setIfInBounds_toArray, List.set_cons_zero, List.set_cons_succ]
                    refine lexH_eff rfl rfl ?_
                    unfold Oper.wp
                    go_simp
                    refine ⟨HOV.out.trans (Only.alloc _ V0 _), ?_⟩
                    refine lexH_eff rfl rfl (wp_append_whr V0 _ _ TIs rfl w.heap.size TIn i0 _ 1 8 Try.underlying38 hi0 hz0 hz1 hz2 rfl (by decide) _ _ _ #[.int .i64 xn] HU4.out.bx.row HU4.out.kp.bel.size rfl rfl rfl (oneI _) (by omega) (by decide) ?_)
                    intro v2 W2 hown2 ho2 hwh2
                    obtain ⟨la2, lc2, hve, _⟩ := owns_slice hown2
                    subst hve
                    refine ⟨HOV.out.trans ho2, ?_⟩
                    have HU5 := Lib.hid (show KPT (fun X => IsC X d L2) w (fun k => k = bb ∨ (Value.slice la2 (M.length + 1) lc2).ownBlock = some k) W2 from HU4.out.kp.more ho2 (fun k hk => .inr hk) (fun k hk => (HU4.out.bx.row.lt k hk).1) (fun k hk => by
                      rcases hk with h | h
                      · exact .inl (.inl h)
                      · rcases hwh2 with h1 | h1
                        · exact .inl (.inr (by rw [← h1]; exact h))
                        · exact .inr ⟨h1 k h, (hown2.lt k h).2⟩))
                    have hb2 : Boxed W2 bb TIs v := (ho2.block bb HU4.out.bx.box.lt (fun e => HU4.out.bx.box.not_row hteI HU4.out.bx.row e.symm)).trans HU4.out.bx.box
                    have HB2 := Lib.hid hb2
                    have HR2 := Lib.hid (show W2.ownsRow w.heap.size TIn 1 (.slice la2 (M.length + 1) lc2) (M ++ [xn]).length (recV encI (M ++ [xn])) from by rw [List.length_append, recV_append, recV_single]; exact hown2)
                    have HV2 := Lib.hid (show ∀ k, (Value.slice la2 (M.length + 1) lc2).ownBlock = some k → k ≠ bb from fun k hk e => hb2.not_row hteI hown2 (by rw [← e]; exact hk.symm))
                    clear hown2 ho2 hwh2 hb2 HU4 HOV
                    simp only [List.getElem_toArray, List.getElem_cons_succ, List.getElem_cons_zero, Act.put, List.setIfInBounds_toArray, List.set_cons_zero, List.set_cons_succ]
                    refine lexH_last rfl rfl ?_
                    unfold Oper.wp
                    have cv := HB2.out.cell
                    have fv := HB2.out.frozen
                    go_simp
                    have HU6 := Lib.hid (show TuAt IsC w d L2 bb (.slice la2 (M.length + 1) lc2) (M ++ [xn]) (W2.setCell ⟨bb, 0, none⟩ (.slice la2 (M.length + 1) lc2)) from by
                      have ho := Only.setCell (S := fun k => k = bb) W2 ⟨bb, 0, none⟩ rfl (.slice la2 (M.length + 1) lc2)
                      exact ⟨HU5.out.own ho (fun k hk => .inl hk) (fun k hk => by rw [hk]; exact HLO.out), HB2.out.set (.slice la2 (M.length + 1) lc2), owns_only HR2.out ho (fun k hk h => HV2.out k hk h), HLO.out⟩)
                    clear cv fv HU5 HB2 HR2 HV2
                    go_wp2_with (fail)
                    go_roundw
                    case rel => exact ⟨k2 + 1, by omega, hlk2, L2, .slice la2 (M.length + 1) lc2, M ++ [xn], by rw [List.length_append]; simp; omega, hLn2, HTI2, HU6⟩
                    case measure => simp [intOf]; omega
                · obtain rfl : k2 = tlen := by omega
                  clear hk2 hlk2
                  by_cases hz : n = 0
                  · obtain rfl : L = [] := List.eq_nil_of_length_eq_zero (by omega)
                    have HC := Lib.hid (next_cl ok HU.out.kp 0 false [] rfl)
                    have hnI : (n : Int) = 0 := by omega
                    have hnb : ((n : Int) == 0) = true := by rw [hnI]; rfl
                    go_wp2_with (fail)
                    refine HC.out.mono ?_
                    rintro e w3 ⟨rfl, hk3, ho⟩
                    have HU3 := Lib.hid (HU.out.turn hk3 ho)
                    clear hk3 ho HC HU
                    go_wp2_with (fail)
                    refine (cknown_any ok _).mono ?_
                    rintro e w4 ⟨rfl, hb⟩
                    have HB4 := Lib.hid ((HU3.out.kp.bel.alloc HU3.out.kp.bel.size _).trans (hb.mono (by simp; exact Nat.le_succ_of_le HU3.out.kp.bel.size)))
                    clear hb
                    go_wp2_with (fail)
                    refine ⟨.bool true, ?_, rfl, HB4.out⟩
                    simp [results, Try.f4, go_sem]
                  · obtain ⟨x, hx, hxm, hxM⟩ := HTI.out.next (fun e => hz (by rw [← hLn, e]; rfl))
                    have HC := Lib.hid (next_cl ok HU.out.kp x true _ hx)
                    obtain ⟨N, hN⟩ : ∃ N, namesL (nextL L).2 = N := ⟨_, rfl⟩
                    have HNN := Lib.hid hN
                    have HXN := Lib.hid (show x ∈ N from by rw [← hN]; exact (nextL_perm L).mem_iff.2 hxm)
                    have HXM := Lib.hid (show x ∈ M → ∀ y ∈ N, y ∈ M from fun h y hy => hxM h y ((nextL_perm L).mem_iff.1 (by rw [hN]; exact hy)))
                    have HL2 := Lib.hid ((nextL_len L).trans hLn)
                    clear hx hxm hxM hN HTI hLn
                    generalize (nextL L).2 = L2 at *
                    go_wp2_with (fail)
                    refine HC.out.mono ?_
                    rintro e w3 ⟨rfl, hk3, ho⟩
                    have HU3 := Lib.hid (HU.out.turn hk3 ho)
                    clear hk3 ho HC HU
                    go_wp2_with (fail)
                    have HF4 := Lib.hid (bx_new w3 (x : Int) TIn)
                    have hb4 : Below w3.heap.size w3 (w3.alloc (.cells #[.int .i64 x] TIn)) := (Below.refl _ _).alloc (Nat.le_refl _) _
                    have HU4 := Lib.hid (HU3.out.later hb4)
                    have HP4 := Lib.hid (HU3.out.kp.add (Q := fun k => (k = bb ∨ v.ownBlock = some k) ∨ k = w3.heap.size) hb4 (fun k hk => hk.imp id (fun h => ⟨by omega, by rw [h]; simp⟩)))
                    have HLF := Lib.hid (show w.heap.size ≤ w3.heap.size from HU3.out.kp.bel.size)
                    have HVL := Lib.hid (show bb < w3.heap.size ∧ ∀ k, v.ownBlock = some k → k < w3.heap.size from ⟨HU3.out.bx.box.lt, fun k hk => (HU3.out.bx.row.lt k hk).2⟩)
                    have hf4 := HF4.out.cell 0 (by decide)
                    generalize w3.alloc (.cells #[.int .i64 x] TIn) = w4 at *
                    generalize w3.heap.size = bf at *
                    clear hb4 HU3
                    have hxN := HXN.out
                    rw [← HNN.out] at hxN
                    obtain ⟨xf, hxf, hxe⟩ := List.mem_map.1 hxN
                    have hxl := name_le (KPT.inv_cl ok HP4.out) hxf
                    have hhs := has_mem hxf
                    rw [hxe] at hxl hhs
                    clear hxf hxe hxN
                    refine (has_cl ok HP4.out (x : Int) ⟨by omega, hxl⟩ true hhs).mono ?_
                    rintro e w5 ⟨rfl, hb⟩
                    have HU5 := Lib.hid (HU4.out.later hb)
                    have HP5 := Lib.hid (HP4.out.later hb)
                    have HF5 := Lib.hid (HF4.out.later hb)
                    have HC := Lib.hid (len_cl ok HP5.out)
                    rw [HL2.out] at HC
                    clear hb HU4 HP4 HF4 hf4 hhs hxl
                    go_wp2_with (fail)
                    refine HC.out.mono ?_
                    rintro e w6 ⟨rfl, hb⟩
                    have HU6 := Lib.hid (HU5.out.later hb)
                    have HP6 := Lib.hid (HP5.out.later hb)
                    have HF6 := Lib.hid (HF5.out.later hb)
                    clear hb HU5 HP5 HF5 HC
                    go_wp2_with (fail)
                    obtain ⟨w7, hw7⟩ : ∃ w7, (w6.alloc (.cells #[.bool true] 4)).alloc (.cells #[.bool false] 4) = w7 := ⟨_, rfl⟩
                    have hb7 : Below w6.heap.size w6 w7 := by rw [← hw7]; exact ((Below.refl _ _).alloc (Nat.le_refl _) _).alloc (by simp) _
                    have hs7 : w7.heap.size = w6.heap.size + 2 := by rw [← hw7]; simp
                    have HA7 := Lib.hid (show RowAt w7 w6.heap.size 1 (fun _ => .bool true) from by rw [← hw7]; exact (tv_new w6 true _).alloc _)
                    have HB7 := Lib.hid (show RowAt w7 (w6.heap.size + 1) 1 (fun _ => .bool false) from by
                      have h := tv_new (w6.alloc (.cells #[.bool true] 4)) false 4
                      rw [World.size_alloc] at h
                      rw [← hw7]
                      exact h)
                    have HU7 := Lib.hid (HU6.out.bx.later hb7)
                    have HF7 := Lib.hid (HF6.out.later hb7)
                    have HP7 := Lib.hid (HP6.out.add (Q := fun k => ((k = bb ∨ v.ownBlock = some k) ∨ k = bf) ∨ (k = w6.heap.size ∨ k = w6.heap.size + 1)) hb7 (fun k hk => hk.imp id (fun h => by rcases h with h | h <;> exact ⟨by omega, by omega⟩)))
                    have HBA := Lib.hid (show bf < w6.heap.size from HF6.out.lt)
                    rw [hw7]
                    clear hb7 hs7 hw7 HU6 HF6 HP6
                    generalize w6.heap.size = ba at *
                    refine (all_cl ok HP7.out).mono ?_
                    rintro e w8 ⟨g0, lb0, own0, rfl, hb, _, hnil0, _, _⟩
                    have HU8 := Lib.hid (HU7.out.later hb)
                    have HF8 := Lib.hid (HF7.out.later hb)
                    have HA8 := Lib.hid (HA7.out.later hb)
                    have HB8 := Lib.hid (HB7.out.later hb)
                    have HP8 := Lib.hid (HP7.out.later hb)
                    clear hb HU7 HF7 HA7 HB7 HP7
                    go_wp2_with (fail)
                    clear hnil0
                    refine (all_cl ok HP8.out).mono ?_
                    rintro e w9 ⟨g1, lb1, own1, rfl, hb, hent, _, hown, hT⟩
                    rw [HNN.out] at hT
                    have HU9 := Lib.hid (HU8.out.later hb)
                    have HF9 := Lib.hid (HF8.out.later hb)
                    have HA9 := Lib.hid (HA8.out.later hb)
                    have HB9 := Lib.hid (HB8.out.later hb)
                    have HP9 := Lib.hid (HP8.out.later hb)
                    have HT1 := Lib.hid hT
                    have HENT1 := Lib.hid hent
                    have HOWN1 := Lib.hid (show ∀ k, own1 k → k < w9.heap.size ∧ ¬ (k = ba ∨ k = ba + 1) from fun k hk => ⟨(hown k hk).1, fun e => (hown k hk).2 (.inr e)⟩)
                    clear hb HU8 HF8 HA8 HB8 HP8 hent hown hT
                    obtain ⟨la, lc, hv⟩ := HU9.out.slice
                    subst hv
                    go_wp2_with (fail)
                    have hba1 : ba < w9.heap.size := HA9.out.lt
                    have hba2 : ba + 1 < w9.heap.size := HB9.out.lt
                    have hsq := HT1.out.solo (q - 1) (by omega) (fun k => k = ba ∨ k = ba + 1) (fun k hk => by rcases hk with h | h <;> omega) HOWN1.out
                    refine (wpIn_wide (n := q)).1 ?_
                    refine range_o1 rfl h1 (gf := g1) (lb := lb1) (by simp [go_sem]) trivial HENT1.out hsq (fun y => .int .i64 ((N[y.val]'y.isLt : Nat) : Int)) (fun y => rfl) KpZ.trans (fun W l o o' _ _ _ => KpZ.put W l o')
                      (fun pre W => TvI w9 ba (ba + 1) (allM M (toldL N pre)) (ownM M x (toldL N pre)) W) (fun _ _ _ => False) (tv_own (A := fun pre => allM M (toldL N pre)) (B := fun pre => ownM M x (toldL N pre)) hba1 hba2) (fun _ _ _ _ _ h _ _ => h.elim) ⟨HA9.out, HB9.out, Only.refl _ _⟩ 14 ?assign1 ?body1 ?done1 (fun _ _ _ _ _ _ h _ => h.elim)
                    case assign1 =>
                      intro l' pre y V K hl' hI hK
                      have HK := Lib.hid hK
                      have HI := Lib.hid hI
                      clear hK hI hsq
                      gi_wp2_with (fail)
                      have h9 := HK.out V (KeepsFrom.refl _ _) HI.out (KpZ.of_below (Below.refl _ _))
                      simpa using h9
                    case body1 =>
                      rintro l' pre y U0 V hl' hI hk0 hlen2
                      have HK0 := Lib.hid hk0
                      have HI := Lib.hid hI
                      have HS := Lib.hid (show toldL N (pre ++ [y]) = toldL N pre ++ [N[y.val]'y.isLt] from toldL_one _ _)
                      obtain ⟨yn, hyn⟩ : ∃ yn, N[y.val]'y.isLt = yn := ⟨_, rfl⟩
                      rw [hyn] at HS ⊢
                      clear hk0 hI hlen2 hsq hyn
                      have HBX := Lib.hid (HU9.out.only HI.out.only (fun h => by have := HVL.out.1; have := HBA.out; omega) (fun k hk h => by have := HVL.out.2 k hk; have := HBA.out; omega))
                      have cb := HBX.out.box.cell
                      gi_wp2_with (fail)
                      gi_loopw [15, 126] (fun sv iv wr => ∃ k : Nat, iv = .int .i64 k ∧ sv = .bool (decide (yn ∈ M.take k)) ∧ k ≤ M.length ∧ wr = V) (fun _ iv _ => M.length - (intOf iv).toNat)
                      case atStart => exact ⟨0, rfl, by simp, Nat.zero_le _, rfl⟩
                      case round =>
                        obtain ⟨j, rfl, rfl, hj, rfl⟩ := hrel
                        by_cases hjl : j < M.length
                        · have hjI : (j : Int) < M.length := by omega
                          obtain ⟨zn, hzn⟩ : ∃ zn, M[j]? = some zn := ⟨_, List.getElem?_eq_getElem hjl⟩
                          obtain ⟨gm, rfl, ce⟩ := HBX.out.at j zn hzn
                          have hdt := decide_take (y := yn) hzn
                          have HDT := Lib.hid hdt
                          clear hdt hzn
                          generalize decide (yn ∈ M.take j) = bv at *
                          cases bv with
                          | true =>
                            gi_wp2_with (fail)
                            go_roundw
                            case rel => exact ⟨j + 1, by go_num, by rw [HDT.out]; rfl, hjl, trivial⟩
                            case measure => simp [intOf]; omega
                          | false =>
                            by_cases hzy : zn = yn
                            · subst hzy
                              have hzb : ((zn : Int) == zn) = true := by simp
                              gi_wp2_with (fail)
                              go_roundw
                              case rel => exact ⟨j + 1, by go_num, by rw [HDT.out]; simp, hjl, trivial⟩
                              case measure => simp [intOf]; omega
                            · have hzb : ((zn : Int) == yn) = false := by rw [beq_eq_false_iff_ne]; omega
                              have hzd : decide (zn = yn) = false := decide_eq_false hzy
                              rw [hzd] at HDT
                              gi_wp2_with (fail)
                              go_roundw
                              case rel => exact ⟨j + 1, by go_num, by rw [HDT.out]; rfl, hjl, trivial⟩
                              case measure => simp [intOf]; omega
                        · obtain rfl : j = M.length := by omega
                          rw [List.take_length]
                          have HAS := Lib.hid (show allM M (toldL N (pre ++ [y])) = (allM M (toldL N pre) && decide (yn ∈ M)) from by rw [HS.out, allM_snoc])
                          have HOS := Lib.hid (show ownM M x (toldL N (pre ++ [y])) = (ownM M x (toldL N pre) || (decide (yn ∈ M) && decide (yn = x))) from by rw [HS.out, ownM_snoc])
                          have HKF := Lib.hid (HF9.out.only HI.out.only (fun h => by have := HBA.out; omega))
                          have HPO := Lib.hid (show TvI w9 ba (ba + 1) (allM M (toldL N (pre ++ [y]))) (ownM M x (toldL N (pre ++ [y]))) ((wr.setCell ⟨ba, 0, none⟩ (.bool (allM M (toldL N (pre ++ [y]))))).setCell ⟨ba + 1, 0, none⟩ (.bool (ownM M x (toldL N (pre ++ [y]))))) from tv_step HI.out _ _)
                          have HON := Lib.hid (fun (A B : Bool) => (Only.setCell (S := fun k => k = ba ∨ k = ba + 1) wr ⟨ba, 0, none⟩ (.inl rfl) (.bool A)).trans (Only.setCell (S := fun k => k = ba ∨ k = ba + 1) (wr.setCell ⟨ba, 0, none⟩ (.bool A)) ⟨ba + 1, 0, none⟩ (.inr rfl) (.bool B)))
                          have ka := HI.out.al.cell 0 (by decide)
                          have fa := HI.out.al.frozen 0
                          have ko := HI.out.ow.cell 0 (by decide)
                          have fo := HI.out.ow.frozen 0
                          have kf := HKF.out.cell 0 (by decide)
                          have HKO := Lib.hid (show ∀ A, (wr.setCell ⟨ba, 0, none⟩ (.bool A)).cell? ⟨ba + 1, 0, none⟩ = some (.bool (ownM M x (toldL N pre))) ∧ (wr.setCell ⟨ba, 0, none⟩ (.bool A)).frozen? ⟨ba + 1, 0, none⟩ = false ∧ (wr.setCell ⟨ba, 0, none⟩ (.bool A)).cell? ⟨bf, 0, none⟩ = some (.int .i64 x) from fun A => by
                            have o1 := Only.setCell (S := fun k => k = ba) wr ⟨ba, 0, none⟩ rfl (.bool A)
                            have r1 := HI.out.ow.only o1 (by omega)
                            exact ⟨r1.cell 0 (by decide), r1.frozen 0, (HKF.out.only o1 (by have := HBA.out; omega)).cell 0 (by decide)⟩)
                          obtain ⟨A2, hA2⟩ : ∃ A2, allM M (toldL N (pre ++ [y])) = A2 := ⟨_, rfl⟩
                          obtain ⟨B2, hB2⟩ : ∃ B2, ownM M x (toldL N (pre ++ [y])) = B2 := ⟨_, rfl⟩
                          rw [hA2] at HAS HPO
                          rw [hB2] at HOS HPO
                          have HA2 := Lib.hid hA2
                          have HB2 := Lib.hid hB2
                          clear hA2 hB2
                          generalize allM M (toldL N pre) = A at *
                          generalize ownM M x (toldL N pre) = B at *
                          generalize decide (yn ∈ M) = C at *
                          have hE : ((yn : Int) == x) = decide (yn = x) := by
                            by_cases h : yn = x
                            · subst h; simp
                            · rw [decide_eq_false h, beq_eq_false_iff_ne]; omega
                          generalize decide (yn = x) = E at *
                          clear cb HBX HU9 HP9 HT1 HENT1 HOWN1 HA9 HB9 HF9 HS
                          cases A <;> cases B <;> cases C <;> cases E <;> (
                            have eA := HAS.out
                            have eB := HOS.out
                            simp at eA eB
                            have h2 := Lib.hid (HON.out A2 B2)
                            obtain ⟨k1, k2, k3⟩ := HKO.out A2
                            have HPO2 := Lib.hid HPO.out
                            clear HPO
                            subst eA
                            subst eB
                            gi_wp2_with (fail)
                            exact ⟨⟨h2.out.size, fun i o hB hi hc => (h2.out.block i (Array.getElem?_eq_some_iff.1 hi).1 (by omega)).trans hi⟩, HK0.out.trans (KpZ.of_only h2.out), by
                              show TvI w9 ba (ba + 1) (allM M (toldL N (pre ++ [y]))) (ownM M x (toldL N (pre ++ [y]))) _
                              rw [HA2.out, HB2.out]
                              exact HPO2.out⟩)
                    case done1 =>
                      rintro D1 xs V1 hD1 hxs hI hDk1
                      rw [toldL_all hxs] at hI
                      have HE := Lib.hid (tou_end HXM.out)
                      have ka := hI.al.cell 0 (by decide)
                      have ko := hI.ow.cell 0 (by decide)
                      have HB1 := Lib.hid (show Below w.heap.size w V1 from hI.only.below HP9.out.bel HP9.out.bel.size (fun k hk => by have := HLF.out; have := HBA.out; omega))
                      have HDK := Lib.hid hDk1
                      have HDL := Lib.hid (show w.heap.size ≤ D1 from Nat.le_trans HP9.out.bel.size hD1)
                      clear hI hxs hDk1 hD1 hsq HP9 HU9 HF9 HA9 HB9 HT1 HENT1 HOWN1 HVL HBA HLF
                      generalize allM M N = A at *
                      generalize ownM M x N = B at *
                      cases B with
                      | false =>
                        go_wp2_with (fail)
                        clear ka ko
                        refine (cknown_any ok _).mono ?_
                        rintro e V9 ⟨rfl, hb⟩
                        have HB9 := Lib.hid (HB1.out.trans (hb.mono HB1.out.size))
                        have HD9 := Lib.hid ((hb.block D1 (Array.getElem?_eq_some_iff.1 HDK.out).1).trans HDK.out)
                        clear hb HB1 HDK
                        go_wp2_with (fail)
                        refine leaves_many [D1] _ (List.nodup_cons.2 ⟨List.not_mem_nil, List.nodup_nil⟩) (fun E hE => by
                          rw [List.mem_singleton] at hE
                          subst hE
                          exact HD9.out) (fun W' ho2 hs2 => ⟨.bool true, ?_, rfl, ?_⟩)
                        · simp [results, Try.f4, go_sem]
                        · exact ho2.below HB9.out HB9.out.size (fun k hk => by
                            rw [List.mem_singleton] at hk
                            subst hk
                            exact HDL.out)
                      | true =>
                        cases A with
                        | false => exact absurd HE.out (by decide)
                        | true =>
                          go_wp2_with (fail)
                          clear ka ko
                          refine (cknown_any ok _).mono ?_
                          rintro e V9 ⟨rfl, hb⟩
                          have HB9 := Lib.hid (HB1.out.trans (hb.mono HB1.out.size))
                          have HD9 := Lib.hid ((hb.block D1 (Array.getElem?_eq_some_iff.1 HDK.out).1).trans HDK.out)
                          clear hb HB1 HDK
                          go_wp2_with (fail)
                          refine leaves_many [D1] _ (List.nodup_cons.2 ⟨List.not_mem_nil, List.nodup_nil⟩) (fun E hE => by
                            rw [List.mem_singleton] at hE
                            subst hE
                            exact HD9.out) (fun W' ho2 hs2 => ⟨.bool true, ?_, rfl, ?_⟩)
                          · simp [results, Try.f4, go_sem]
                          · exact ho2.below HB9.out HB9.out.size (fun k hk => by
                              rw [List.mem_singleton] at hk
                              subst hk
                              exact HDL.out)
    · have htI : (100 : Int) < tlen := by omega
      go_wp2_with (fail)
      refine (cknown_any ok w).mono ?_
      rintro e w2 ⟨rfl, hb⟩
      go_wp2_with (fail)
      refine ⟨.bool true, ?_, rfl, hb⟩
      simp [results, Try.f4, go_sem]
  · have hlI : (100 : Int) < len := by omega
    have hdl : decide ((100 : Int) < (len : Int)) = true := decide_eq_true hlI
    have hdl2 : decide (100 < len) = true := decide_eq_true (by omega)
    clear hin
    go_wp2_with (fail)
    refine (cknown_any ok w).mono ?_
    rintro e w2 ⟨rfl, hb⟩
    go_wp2_with (fail)
    refine ⟨.bool true, ?_, rfl, hb⟩
    simp [results, Try.f4, go_sem]
theorem lawCTouched_any (a : Option Addr) (len cap : Nat) (O : Nat → OpA) (ta : Option Addr) (tlen tcap : Nat) (z : Nat → Int) (w : World) (hO : OpsAt w a len O) (hZ : IntsIn w ta tlen z) :
    Calls Try.prog 4 #[.slice a len cap, .slice ta tlen tcap] w fun e w' => e = .returned (.bool true) ∧ Below w.heap.size w w' :=
  callsIn_wide.1 (lawCTouched_in ok 8 (Nat.le_refl _) a len cap O ta tlen tcap z w hO hZ)
end
end Go.Proofs.Ytndddfkebbeemaa
