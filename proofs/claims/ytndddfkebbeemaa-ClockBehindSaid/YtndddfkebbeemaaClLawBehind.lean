/-
  The walk of ClockBehind, for whatever clock. (Printed by a tool of ours: tools/gen-clock*.py.)
-/
import Derived.Test.YtndddfkebbeemaaClGrow
import Derived.Test.YtndddfkebbeemaaClBehP
import Derived.BigQuiet
namespace Go.Proofs.Ytndddfkebbeemaa
open Go.RowKit Go.Shelf Go
attribute [local go_sem] Oper.semAt_some

/-- Both lists, boxed; the ranges' blocks. -/
structure BhAt (w : World) (b : Nat) (v1 v2 : Value) (M1 M2 : List Nat) (Ds : List Nat) (W : World) : Prop where
  one : BxL w b v1 M1 W
  two : BxL w (b + 1) v2 M2 W
  bel : Below w.heap.size w W
  nd : Ds.Nodup
  ds : ∀ D ∈ Ds, W.heap[D]? = some (.deferred (some [])) ∧ w.heap.size ≤ D
theorem BhAt.later {w W W' : World} {b : Nat} {v1 v2 : Value} {M1 M2 Ds : List Nat} (h : BhAt w b v1 v2 M1 M2 Ds W) (hb : Below W.heap.size W W') : BhAt w b v1 v2 M1 M2 Ds W' :=
  ⟨h.one.later hb, h.two.later hb, h.bel.trans (hb.mono h.bel.size), h.nd, fun D hD => ⟨(hb.block D (Array.getElem?_eq_some_iff.1 (h.ds D hD).1).1).trans (h.ds D hD).1, (h.ds D hD).2⟩⟩
section
variable {IsC : Thg → Nat → List Fr → Prop} (ok : ClOk IsC)
include ok
set_option maxRecDepth 100000 in
set_option maxHeartbeats 16000000 in
theorem lawCBehind_in (q : Nat) (hm : 8 ≤ q) (a : Option Addr) (len cap : Nat) (O : Nat → OpA) (w : World) (hO : OpsAt w a len O) :
    CallsIn Fence.wide q Try.prog 8 #[.slice a len cap] w fun e w' => e = .returned (.bool true) ∧ Below w.heap.size w w' := by
  have h1 : 1 ≤ q := by omega
  have HO := Lib.hid hO
  clear hO
  obtain ⟨i0, hi0, hz0, hz1, hz2⟩ := info_parts infoIntC
  refine callsIn_of_wp_marks Try.func8 rfl trivial ?_ rfl
  simp only [Try.ntmps8, List.size_toArray, List.length_cons, List.length_nil, Nat.reduceAdd, Nat.reduceSub, Array.replicate_succ, Array.replicate_zero, List.push_toArray, List.append_toArray, List.nil_append, List.cons_append]
  refine wpIn_wide.2 ?_
  by_cases hin : len ≤ 60
  · have hlI : ¬ (60 : Int) < len := by omega
    go_wp2_with (fail)
    refine (new_cl ok w).mono ?_
    rintro e w1 ⟨d, rfl, hK⟩
    have HK1 := Lib.hid hK
    clear hK
    go_wp2_with (fail)
    go_loopw [21] (fun iv wr => ∃ (k : Nat) (L : List Fr), iv = .int .i64 k ∧ k ≤ len ∧ L.length ≤ k ∧ Hid (KPT (fun X => IsC X d L) w (fun _ => False) wr)) (fun iv _ => len - (intOf iv).toNat)
    case atStart => exact ⟨0, [], rfl, Nat.zero_le _, Nat.le_refl _, HK1⟩
    case round =>
      clear HK1
      obtain ⟨k, L, rfl, hk, hLk, HK⟩ := hrel
      by_cases hlk : k < len
      · have hkI : (k : Int) < len := by omega
        obtain ⟨gi, oi, rfl, _, hok, hcI⟩ := HO.out.one k hlk
        obtain ⟨a0, a1⟩ := hcI wr HK.out.bel
        clear hcI
        generalize O k = op at a0 a1 hok
        obtain ⟨kind, frame⟩ := op
        dsimp only at a0 a1 hok
        have hL1 : L.length < 1000 := by omega
        by_cases h1 : kind = 1
        · subst h1
          go_wp2_with (fail)
          refine (remove_cl ok HK.out frame hok _ _ rfl rfl).mono ?_
          rintro e w2 ⟨rfl, hk2, _⟩
          have HK2 := Lib.hid hk2
          have hLn : (remL L frame).length ≤ k + 1 := by have := remL_len L frame; omega
          generalize remL L frame = L2 at hLn HK2
          clear hk2 HK a0 a1
          go_wp2_with (fail)
          go_roundw
          case rel => exact ⟨k + 1, L2, by go_num, hlk, hLn, HK2⟩
          case measure => simp [intOf]; omega
        · have hb1 : (kind == 1) = false := by simp; exact h1
          by_cases h2 : kind = 2
          · subst h2
            go_wp2_with (fail)
            refine (touch_cl ok HK.out frame hok _ _ rfl rfl).mono ?_
            rintro e w2 ⟨rfl, hk2, _⟩
            have HK2 := Lib.hid hk2
            have hLn : (touL L frame).length ≤ k + 1 := by have := touL_len L frame; omega
            generalize touL L frame = L2 at hLn HK2
            clear hk2 HK a0 a1
            go_wp2_with (fail)
            go_roundw
            case rel => exact ⟨k + 1, L2, by go_num, hlk, hLn, HK2⟩
            case measure => simp [intOf]; omega
          · have hb2 : (kind == 2) = false := by simp; exact h2
            by_cases h3 : kind = 3
            · subst h3
              go_wp2_with (fail)
              refine (next_cl ok HK.out (nextL L).1.1 (nextL L).1.2 (nextL L).2 rfl).mono ?_
              rintro e w2 ⟨rfl, hk2, _⟩
              have HK2 := Lib.hid hk2
              have hLn : ((nextL L).2).length ≤ k + 1 := by have := nextL_len L; omega
              generalize (nextL L).2 = L2 at hLn HK2
              clear hk2 HK a0 a1
              go_wp2_with (fail)
              go_roundw
              case rel => exact ⟨k + 1, L2, by go_num, hlk, hLn, HK2⟩
              case measure => simp [intOf]; omega
            · have hb3 : (kind == 3) = false := by simp; exact h3
              go_wp2_with (fail)
              refine (add_cl ok HK.out frame hok hL1 _ _ rfl rfl).mono ?_
              rintro e w2 ⟨rfl, hk2, _⟩
              have HK2 := Lib.hid hk2
              have hLn : (addL L frame).length ≤ k + 1 := by have := addL_len L frame; omega
              generalize addL L frame = L2 at hLn HK2
              clear hk2 HK a0 a1
              go_wp2_with (fail)
              go_roundw
              case rel => exact ⟨k + 1, L2, by go_num, hlk, hLn, HK2⟩
              case measure => simp [intOf]; omega
      · obtain rfl : k = len := by omega
        go_wp2_with (fail)
        have HI0 := Lib.hid (KPT.inv_cl ok HK.out)
        have hln60 : L.length ≤ 60 := by omega
        obtain ⟨N, hN⟩ : ∃ N, namesL L = N := ⟨_, rfl⟩
        have HNN := Lib.hid hN
        have HNL := Lib.hid (show N.length = L.length from by rw [← hN, namesL_len])
        obtain ⟨N2, hN2⟩ : ∃ N2, namesL (nextL L).2 = N2 := ⟨_, rfl⟩
        have HNN2 := Lib.hid hN2
        have HNL2 := Lib.hid (show N2.length = L.length from by rw [← hN2, namesL_len, nextL_len])
        obtain ⟨b0, hb0⟩ : ∃ b0, wr.heap.size = b0 := ⟨_, rfl⟩
        obtain ⟨W0, hW0⟩ : ∃ W0, (wr.alloc (.cells #[.slice none 0 0] TIs)).alloc (.cells #[.slice none 0 0] TIs) = W0 := ⟨_, rfl⟩
        have hbw : Below wr.heap.size wr W0 := by rw [← hW0]; exact ((Below.refl _ _).alloc (Nat.le_refl _) _).alloc (by simp) _
        have hs0 : W0.heap.size = b0 + 2 := by rw [← hW0, ← hb0]; simp
        have HX0 := Lib.hid (show Boxed W0 b0 TIs (.slice none 0 0) from by rw [← hW0, ← hb0]; exact (Boxed.new wr _ _).alloc _)
        have HY0 := Lib.hid (show Boxed W0 (b0 + 1) TIs (.slice none 0 0) from by
          have h := Boxed.new (wr.alloc (.cells #[.slice none 0 0] TIs)) TIs (.slice none 0 0)
          rw [World.size_alloc, hb0] at h
          rw [← hW0]
          exact h)
        have HLO := Lib.hid (show w.heap.size ≤ b0 from by rw [← hb0]; exact HK.out.bel.size)
        have HK0 := Lib.hid (HK.out.add (Q := fun k => k = b0 ∨ k = b0 + 1) hbw (fun k hk => .inr ⟨by omega, by omega⟩))
        clear hbw hN hN2 HK hk hLk
        rw [hW0]
        clear hW0 hs0
        subst hb0
        generalize wr.heap.size = bb at *
        refine (all_cl ok HK0.out).mono ?_
        rintro e W1 ⟨g0, lb0, own0, rfl, hb, _, hnil0, _, _⟩
        have HK1 := Lib.hid (HK0.out.later hb)
        have HX1 := Lib.hid (show Boxed W1 bb TIs (.slice none 0 0) from (hb.block bb HX0.out.lt).trans HX0.out)
        have HY1 := Lib.hid (show Boxed W1 (bb + 1) TIs (.slice none 0 0) from (hb.block (bb + 1) HY0.out.lt).trans HY0.out)
        clear hb HK0 HX0 HY0
        go_wp2_with (fail)
        clear hnil0
        refine (all_cl ok HK1.out).mono ?_
        rintro e W2 ⟨g1, lb1, own1, rfl, hb, hent, _, hown, hT⟩
        rw [HNN.out] at hT
        have HK2 := Lib.hid (HK1.out.later hb)
        have HBX1 := Lib.hid (show Boxed W2 bb TIs (.slice none 0 0) from (hb.block bb HX1.out.lt).trans HX1.out)
        have HY2 := Lib.hid (show Boxed W2 (bb + 1) TIs (.slice none 0 0) from (hb.block (bb + 1) HY1.out.lt).trans HY1.out)
        have HT1 := Lib.hid hT
        have HENT1 := Lib.hid hent
        have HOWN1 := Lib.hid (show ∀ k, own1 k → k < W2.heap.size ∧ k ≠ bb from fun k hk => ⟨(hown k hk).1, fun e => (hown k hk).2 (.inl e)⟩)
        have HLN1 := Lib.hid (show N.length ≤ 1000 from by rw [HNL.out]; omega)
        clear hb hent hown hT HK1 HX1 HY1
        go_wp2_with (fail)
        have hbx1 : bb < W2.heap.size := HBX1.out.lt
        have hsq1 := HT1.out.grow (q - 1) (by omega) bb hbx1 (by rw [boxOwn_of HBX1.out.cell]; rfl) HOWN1.out
        refine (wpIn_wide (n := q)).1 ?_
        refine range_o1 rfl h1 (gf := g1) (lb := lb1) (by simp [go_sem]) trivial HENT1.out hsq1 (fun x => .int .i64 ((N[x.val]'x.isLt : Nat) : Int)) (fun x => rfl) KpG.trans (fun W l o o' hl h hc => KpG.put l o' hbx1 hl h hc)
          (GrowN W2 bb N) (fun _ _ _ => False) (growN_own N hbx1) (fun _ _ _ _ _ h _ _ => h.elim) ⟨_, HBX1.out, World.ownsRow_nil _ _ _ _, Only.refl _ _⟩ 7 ?assign1 ?body1 ?done1 (fun _ _ _ _ _ _ h _ => h.elim)
        case assign1 =>
          intro l' pre x V K hl' hI hK
          have HK := Lib.hid hK
          have HI := Lib.hid hI
          clear hK hI hsq1
          gi_wp2_with (fail)
          have h9 := HK.out V (KeepsFrom.refl _ _) HI.out (KpG.of_below (by obtain ⟨_, _, _, ho⟩ := HI.out; have := ho.size; omega) (Below.refl _ _))
          simpa using h9
        case body1 =>
          rintro l' pre x U0 V hl' ⟨v, hv, hr, ho⟩ hkp0 hlen2
          obtain ⟨hxl, _⟩ := next_of_some hlen2
          have HKP0 := Lib.hid hkp0
          have hpl : pre.length < N.length := by rw [← hxl]; exact x.isLt
          obtain ⟨va, vc, hve, _⟩ := owns_slice hr
          subst hve
          have HV := Lib.hid hv
          have HR := Lib.hid hr
          have HO9 := Lib.hid ho
          have hle := ho.size
          have hlp : pre.length ≤ 1000 := by have := HLN1.out; omega
          have cv := hv.cell
          have fv := hv.frozen
          clear hv hr ho hlen2 hsq1 hkp0 hxl hpl
          gi_wp2_with (gi_at_builtin; refine wpListIn_append_one V rfl _ _ TIs rfl W2.heap.size TIn i0 _ 1 8 Try.underlying38 hi0 hz0 hz1 hz2 rfl (by decide) _ _ _ #[.int .i64 ((N[x.val]'x.isLt : Nat) : Int)] HR.out hle rfl rfl rfl (oneI _) hlp (by decide) ?_)
          intro v' w1 hown hg hat
          obtain ⟨hv1, ⟨hb2, hr2, ho2⟩, hkf, hkp⟩ := grow_step HV.out hteI HR.out HO9.out hown hg hat
          obtain ⟨va2, vc2, hve, _⟩ := owns_slice hown
          subst hve
          have HB2 := Lib.hid hb2
          have HR2 := Lib.hid hr2
          have HO2 := Lib.hid ho2
          have HKF := Lib.hid hkf
          have HKP := Lib.hid hkp
          have cv := hv1.cell
          have fv := hv1.frozen
          clear hv1 hb2 hr2 ho2 hkf hkp hown hg hat
          gi_wp2_with (fail)
          exact ⟨HKF.out, HKP0.out.trans HKP.out, _, HB2.out, by
            rw [List.length_append, toldL_one, recV_append, recV_single]
            exact HR2.out, HO2.out⟩
        case done1 =>
          rintro D1 xs V1 hD1 hxs hI hDk1
          have hlx : xs.length = N.length := by
            have := congrArg List.length hxs
            simpa using this
          obtain ⟨v1, hv, hr, ho⟩ := hI
          rw [toldL_all hxs, hlx] at hr
          clear hlx hxs hsq1
          have hDlt1 : D1 < V1.heap.size := (Array.getElem?_eq_some_iff.1 hDk1).1
          have HK3 := Lib.hid (HK2.out.more (Q := fun k => k = bb ∨ k = bb + 1 ∨ v1.ownBlock = some k ∨ k = D1) ho (fun k hk => .inl hk) (fun k hk => by rw [hk]; exact HLO.out) (fun k hk => by
            rcases hk with h | h | h | h
            · exact .inl (.inl h)
            · exact .inl (.inr h)
            · exact .inr (hr.lt k h)
            · exact .inr ⟨by rw [h]; exact hD1, by rw [h]; exact hDlt1⟩))
          have HA3 := Lib.hid (show BxL w bb v1 N V1 from ⟨hv, owns_base hr (fun k hk => Nat.le_trans HK2.out.bel.size (hr.lt k hk).1), HLO.out⟩)
          have HY3 := Lib.hid (show Boxed V1 (bb + 1) TIs (.slice none 0 0) from (ho.block (bb + 1) HY2.out.lt (by omega)).trans HY2.out)
          have HD3 := Lib.hid hDk1
          have HDL := Lib.hid (show w.heap.size ≤ D1 from Nat.le_trans HK2.out.bel.size hD1)
          have HVO := Lib.hid (show ∀ k, v1.ownBlock = some k → k ≠ bb + 1 from fun k hk e => HY3.out.not_row hteI hr (by rw [← e]; exact hk.symm))
          have HDY := Lib.hid (show bb + 1 < D1 from Nat.lt_of_lt_of_le HY2.out.lt hD1)
          clear hv hr ho hDk1 hDlt1 hD1 HK2 HY2 HBX1 HT1 HENT1 HOWN1
          obtain ⟨⟨x, y⟩, hxy⟩ : ∃ p, (nextL L).1 = p := ⟨_, rfl⟩
          have HXY := Lib.hid hxy
          have HC := Lib.hid (next_cl ok HK3.out x y (nextL L).2 (by rw [← hxy]))
          clear hxy
          go_wp2_with (fail)
          refine HC.out.mono ?_
          rintro e V2 ⟨rfl, hk4, ho⟩
          have HK4 := Lib.hid hk4
          have HA4 := Lib.hid (HA3.out.only ho (fun h => h (.inl rfl)) (fun k hk h => h (.inr (.inr (.inl hk)))))
          have HY4 := Lib.hid (show Boxed V2 (bb + 1) TIs (.slice none 0 0) from (ho.block (bb + 1) HY3.out.lt (fun h => h (.inr (.inl rfl)))).trans HY3.out)
          have HD4 := Lib.hid ((ho.block D1 (Array.getElem?_eq_some_iff.1 HD3.out).1 (fun h => h (.inr (.inr (.inr rfl))))).trans HD3.out)
          clear hk4 ho HC HK3 HA3 HY3 HD3
          go_wp2_with (fail)
          refine (all_cl ok HK4.out).mono ?_
          rintro e V3 ⟨g2, lb2, own2, rfl, hb, _, hnil2, _, _⟩
          have HK5 := Lib.hid (HK4.out.later hb)
          have HA5 := Lib.hid (HA4.out.later hb)
          have HY5 := Lib.hid (show Boxed V3 (bb + 1) TIs (.slice none 0 0) from (hb.block (bb + 1) HY4.out.lt).trans HY4.out)
          have HD5 := Lib.hid ((hb.block D1 (Array.getElem?_eq_some_iff.1 HD4.out).1).trans HD4.out)
          clear hb HK4 HA4 HY4 HD4
          go_wp2_with (fail)
          clear hnil2
          refine (all_cl ok HK5.out).mono ?_
          rintro e V4 ⟨g3, lb3, own3, rfl, hb, hent, _, hown, hT⟩
          rw [HNN2.out] at hT
          have HK6 := Lib.hid (HK5.out.later hb)
          have HA6 := Lib.hid (HA5.out.later hb)
          have HBX2 := Lib.hid (show Boxed V4 (bb + 1) TIs (.slice none 0 0) from (hb.block (bb + 1) HY5.out.lt).trans HY5.out)
          have HD6 := Lib.hid ((hb.block D1 (Array.getElem?_eq_some_iff.1 HD5.out).1).trans HD5.out)
          have HT2 := Lib.hid hT
          have HENT2 := Lib.hid hent
          have HOWN2 := Lib.hid (show ∀ k, own3 k → k < V4.heap.size ∧ k ≠ bb + 1 from fun k hk => ⟨(hown k hk).1, fun e => (hown k hk).2 (.inr (.inl e))⟩)
          have HLN2 := Lib.hid (show N2.length ≤ 1000 from by rw [HNL2.out]; omega)
          clear hb hent hown hT HK5 HA5 HY5 HD5
          go_wp2_with (fail)
          have hbx2 : (bb + 1) < V4.heap.size := HBX2.out.lt
          have hsq2 := HT2.out.grow (q - 1) (by omega) (bb + 1) hbx2 (by rw [boxOwn_of HBX2.out.cell]; rfl) HOWN2.out
          refine (wpIn_wide (n := q)).1 ?_
          refine range_o1 rfl h1 (gf := g3) (lb := lb3) (by simp [go_sem]) trivial HENT2.out hsq2 (fun x => .int .i64 ((N2[x.val]'x.isLt : Nat) : Int)) (fun x => rfl) KpG.trans (fun W l o o' hl h hc => KpG.put l o' hbx2 hl h hc)
            (GrowN V4 (bb + 1) N2) (fun _ _ _ => False) (growN_own N2 hbx2) (fun _ _ _ _ _ h _ _ => h.elim) ⟨_, HBX2.out, World.ownsRow_nil _ _ _ _, Only.refl _ _⟩ 10 ?assign2 ?body2 ?done2 (fun _ _ _ _ _ _ h _ => h.elim)
          case assign2 =>
            intro l' pre x V K hl' hI hK
            have HK := Lib.hid hK
            have HI := Lib.hid hI
            clear hK hI hsq2
            gi_wp2_with (fail)
            have h9 := HK.out V (KeepsFrom.refl _ _) HI.out (KpG.of_below (by obtain ⟨_, _, _, ho⟩ := HI.out; have := ho.size; omega) (Below.refl _ _))
            simpa using h9
          case body2 =>
            rintro l' pre x U0 V hl' ⟨v, hv, hr, ho⟩ hkp0 hlen2
            obtain ⟨hxl, _⟩ := next_of_some hlen2
            have HKP0 := Lib.hid hkp0
            have hpl : pre.length < N2.length := by rw [← hxl]; exact x.isLt
            obtain ⟨va, vc, hve, _⟩ := owns_slice hr
            subst hve
            have HV := Lib.hid hv
            have HR := Lib.hid hr
            have HO9 := Lib.hid ho
            have hle := ho.size
            have hlp : pre.length ≤ 1000 := by have := HLN2.out; omega
            have cv := hv.cell
            have fv := hv.frozen
            clear hv hr ho hlen2 hsq2 hkp0 hxl hpl
            gi_wp2_with (gi_at_builtin; refine wpListIn_append_one V rfl _ _ TIs rfl V4.heap.size TIn i0 _ 1 8 Try.underlying38 hi0 hz0 hz1 hz2 rfl (by decide) _ _ _ #[.int .i64 ((N2[x.val]'x.isLt : Nat) : Int)] HR.out hle rfl rfl rfl (oneI _) hlp (by decide) ?_)
            intro v' w1 hown hg hat
            obtain ⟨hv1, ⟨hb2, hr2, ho2⟩, hkf, hkp⟩ := grow_step HV.out hteI HR.out HO9.out hown hg hat
            obtain ⟨va2, vc2, hve, _⟩ := owns_slice hown
            subst hve
            have HB2 := Lib.hid hb2
            have HR2 := Lib.hid hr2
            have HO2 := Lib.hid ho2
            have HKF := Lib.hid hkf
            have HKP := Lib.hid hkp
            have cv := hv1.cell
            have fv := hv1.frozen
            clear hv1 hb2 hr2 ho2 hkf hkp hown hg hat
            gi_wp2_with (fail)
            exact ⟨HKF.out, HKP0.out.trans HKP.out, _, HB2.out, by
              rw [List.length_append, toldL_one, recV_append, recV_single]
              exact HR2.out, HO2.out⟩
          case done2 =>
            rintro D2 xs V5 hD2 hxs hI hDk2
            have hlx : xs.length = N2.length := by
              have := congrArg List.length hxs
              simpa using this
            obtain ⟨v2, hv, hr, ho⟩ := hI
            rw [toldL_all hxs, hlx] at hr
            clear hlx hxs hsq2
            have hDlt2 : D2 < V5.heap.size := (Array.getElem?_eq_some_iff.1 hDk2).1
            have HE := Lib.hid (show BhAt w bb v1 v2 N N2 [D2, D1] V5 from by
              have hD12 : D1 < D2 := Nat.lt_of_lt_of_le (Array.getElem?_eq_some_iff.1 HD6.out).1 hD2
              refine ⟨HA6.out.only ho (by omega) (fun k hk => HVO.out k hk), ⟨hv, owns_base hr (fun k hk => Nat.le_trans HK6.out.bel.size (hr.lt k hk).1), Nat.le_succ_of_le HLO.out⟩, ho.below HK6.out.bel HK6.out.bel.size (fun k hk => by have := HLO.out; omega), by simp; omega, fun E hE => ?_⟩
              rcases List.mem_cons.1 hE with rfl | hE
              · exact ⟨hDk2, by have := HDL.out; omega⟩
              · rw [List.mem_singleton] at hE
                subst hE
                exact ⟨(ho.block _ (Array.getElem?_eq_some_iff.1 HD6.out).1 (by have := HDY.out; omega)).trans HD6.out, HDL.out⟩)
            clear hv hr ho hDk2 hDlt2 hD2 HK6 HA6 HBX2 HT2 HENT2 HOWN2 HD6 HVO HDY HDL HLO
            obtain ⟨la, lc, rfl⟩ := HE.out.one.slice
            obtain ⟨ma, mc, rfl⟩ := HE.out.two.slice
            have c0 := HE.out.one.box.cell
            have c1 := HE.out.two.box.cell
            have e1 := HNL.out
            have e2 := HNL2.out
            rw [e1] at c0
            rw [e2] at c1
            by_cases hz : L.length = 0
            · have hL0 : L = [] := List.eq_nil_of_length_eq_zero hz
              have hy : y = false := by
                have := HXY.out
                rw [hL0] at this
                exact (congrArg Prod.snd this).symm
              subst hy
              rw [hz] at c0 c1
              go_wp2_with (fail)
              clear c0 c1
              refine (cknown_any ok _).mono ?_
              rintro e V6 ⟨rfl, hb⟩
              have HE6 := Lib.hid (HE.out.later hb)
              clear hb HE
              go_wp2_with (fail)
              refine leaves_many [D2, D1] _ HE6.out.nd (fun E hE => (HE6.out.ds E hE).1) (fun W' ho2 hs2 => ⟨.bool true, ?_, rfl, ?_⟩)
              · simp [results, Try.f8, go_sem]
              · exact ho2.below HE6.out.bel HE6.out.bel.size (fun k hk => (HE6.out.ds k hk).2)
            · obtain ⟨x2, s, h5, hs, hlast, hrot⟩ := next_beh (L := L) (fun e => hz (by rw [e]; rfl))
              rw [HXY.out] at h5
              injection h5 with h6 h7
              subst h6; subst h7
              rw [HNN2.out] at hlast hrot
              rw [HNN.out] at hrot
              have hnd := HI0.out.nd
              rw [HNN.out] at hnd
              have HROT := Lib.hid hrot
              have HND := Lib.hid hnd
              clear hrot hnd HXY
              generalize hn : L.length = n at *
              have hn0 : (0 : Int) < n := by omega
              have hdn1 : decide ((0 : Int) < (n : Int)) = true := decide_eq_true hn0
              have hdn2 : decide (0 < n) = true := decide_eq_true (by omega)
              have hxx : ((x : Int) == x) = true := by simp
              obtain ⟨g1', rfl, cl⟩ := HE.out.two.at (n - 1) x hlast
              have en : ((n : Int) - 1) = ((n - 1 : Nat) : Int) := by omega
              have hbn : ((n - 1 : Nat) : Int) < n := by omega
              obtain ⟨z0, hz0'⟩ : ∃ z, N[s]? = some z := ⟨_, List.getElem?_eq_getElem (by omega)⟩
              have h00 : N2[0]? = some z0 := by rw [HROT.out 0 (by omega), Nat.add_zero, Nat.mod_eq_of_lt hs]; exact hz0'
              have HZ := Lib.hid h00
              have HZS := Lib.hid hz0'
              have hne : ∀ i, i < n → i ≠ s → ∃ z : Nat, N[i]? = some z ∧ z ≠ z0 := fun i hi his => by
                refine ⟨_, List.getElem?_eq_getElem (by omega), fun e => ?_⟩
                rcases Nat.lt_or_gt_of_ne his with h | h
                · refine List.pairwise_iff_getElem.1 HND.out i s (by omega) (by omega) h ?_
                  rw [e]
                  exact (Option.some.inj ((List.getElem?_eq_getElem (by omega)).symm.trans HZS.out)).symm
                · refine List.pairwise_iff_getElem.1 HND.out s i (by omega) (by omega) h ?_
                  rw [e]
                  exact Option.some.inj ((List.getElem?_eq_getElem (by omega)).symm.trans HZS.out)
              have HNE := Lib.hid hne
              clear h00 hz0' hlast hne
              go_wp2_with (fail)
              clear cl c0 c1 hdn1 hdn2 hxx
              go_loopw [11, 109] (fun av iv wx => ∃ i : Nat, iv = .int .i64 i ∧ av = .int .i64 (if s < i then (s : Int) else -1) ∧ i ≤ n ∧ Hid (BhAt w bb (.slice la N.length lc) (.slice (some ⟨g1', 0, none⟩) N2.length mc) N N2 [D2, D1] wx)) (fun _ iv _ => n - (intOf iv).toNat)
              case atStart => exact ⟨0, rfl, by rw [if_neg (Nat.not_lt_zero _)], Nat.zero_le _, HE⟩
              case round =>
                clear HE
                rename World => wx
                obtain ⟨i, rfl, rfl, hi, HE⟩ := hrel
                have c0 := HE.out.one.box.cell
                have c1 := HE.out.two.box.cell
                rw [e1] at c0
                rw [e2] at c1
                by_cases hli : i < n
                · have hiI : (i : Int) < n := by omega
                  obtain ⟨_, eg, cf⟩ := HE.out.two.at 0 z0 HZ.out
                  injection eg with eg
                  injection eg with eg
                  subst eg
                  by_cases his : i = s
                  · subst his
                    obtain ⟨g0', rfl, ce⟩ := HE.out.one.at i z0 HZS.out
                    have hzb : ((z0 : Int) == z0) = true := by simp
                    rw [if_neg (Nat.lt_irrefl _)]
                    go_wp2_with (fail)
                    go_quiet (fail)
                    have HE8 := Lib.hid (HE.out.later (below_drewN (Below.refl wx.heap.size wx) nq))
                    clear c0 c1 cf ce HE
                    go_wp2_with (fail)
                    go_roundw
                    case rel => exact ⟨i + 1, by go_num, by rw [if_pos (Nat.lt_succ_self _)], hli, HE8⟩
                    case measure => simp [intOf]; omega
                  · obtain ⟨z, hz1', hzne⟩ := HNE.out i hli his
                    obtain ⟨g0', rfl, ce⟩ := HE.out.one.at i z hz1'
                    have hzb : ((z : Int) == z0) = false := by rw [beq_eq_false_iff_ne]; omega
                    have hzb2 : ¬ (z : Int) = z0 := by omega
                    have hif : (if s < i + 1 then (s : Int) else -1) = (if s < i then (s : Int) else -1) := by
                      by_cases h : s < i
                      · rw [if_pos h, if_pos (by omega)]
                      · rw [if_neg h, if_neg (by omega)]
                    have HIF := Lib.hid hif
                    clear hz1' hzne hif
                    generalize (if s < i then (s : Int) else -1) = av at *
                    go_wp2_with (fail)
                    go_quiet (fail)
                    have HE8 := Lib.hid (HE.out.later (below_drewN (Below.refl wx.heap.size wx) nq))
                    clear c0 c1 cf ce HE
                    go_wp2_with (fail)
                    go_roundw
                    case rel => exact ⟨i + 1, by go_num, by rw [HIF.out], hli, HE8⟩
                    case measure => simp [intOf]; omega
                · obtain rfl : i = n := by omega
                  rw [if_pos hs]
                  clear hi hli
                  go_wp2_with (fail)
                  clear c0 c1
                  have hs0 : ¬ (s : Int) < 0 := by omega
                  go_loopw [124] (fun iv wx => ∃ j : Nat, iv = .int .i64 j ∧ j ≤ i ∧ Hid (BhAt w bb (.slice la N.length lc) (.slice (some ⟨g1', 0, none⟩) N2.length mc) N N2 [D2, D1] wx)) (fun iv _ => i - (intOf iv).toNat)
                  case atStart => exact ⟨0, rfl, Nat.zero_le _, HE⟩
                  case round =>
                    clear HE
                    rename World => wy
                    obtain ⟨j, rfl, hj, HE⟩ := hrel
                    have c0 := HE.out.one.box.cell
                    have c1 := HE.out.two.box.cell
                    rw [e1] at c0
                    rw [e2] at c1
                    by_cases hlj : j < i
                    · have hjI : (j : Int) < i := by omega
                      obtain ⟨r, hr⟩ : ∃ r, (s + j) % i = r := ⟨_, rfl⟩
                      have hri : r < i := by rw [← hr]; exact Nat.mod_lt _ (by omega)
                      have hriI : (r : Int) < i := by omega
                      obtain ⟨y2, hy2⟩ : ∃ y, N[r]? = some y := ⟨_, List.getElem?_eq_getElem (by omega)⟩
                      have hy3 := HROT.out j hlj
                      rw [hr, hy2] at hy3
                      obtain ⟨g0', rfl, ce⟩ := HE.out.one.at r y2 hy2
                      obtain ⟨_, eg, cf⟩ := HE.out.two.at j y2 hy3
                      injection eg with eg
                      injection eg with eg
                      subst eg
                      have HM := Lib.hid (beh_mod hr hri (by omega) hs hlj)
                      have hds : decide ((s : Int) < 0) = false := decide_eq_false hs0
                      have hT : (IntKind.i64.wrap ((s : Int) + j)).tmod (i : Int) = r := HM.out.2.2.2.2
                      have hT0 : 0 ≤ (IntKind.i64.wrap ((s : Int) + j)).tmod (i : Int) := by rw [hT]; exact Int.natCast_nonneg r
                      have hT1 : (IntKind.i64.wrap ((s : Int) + j)).tmod (i : Int) < i := by rw [hT]; exact hriI
                      have hT2 : ¬ (IntKind.i64.wrap ((s : Int) + j)).tmod (i : Int) < 0 := by rw [hT]; omega
                      have ceT : wy.cell? ⟨g0', ((IntKind.i64.wrap ((s : Int) + j)).tmod (i : Int)).toNat, none⟩ = some (.int .i64 y2) := by rw [hT]; exact ce
                      have HTT := Lib.hid hT
                      clear hT
                      have hin0 : ¬ (i : Int) = 0 := by omega
                      have hin1 : ((i : Int) == 0) = false := by rw [beq_eq_false_iff_ne]; omega
                      have hyy : ((y2 : Int) == y2) = true := by simp
                      clear hy2 hy3 hr
                      go_wp2_with (fail)
                      go_quiet (fail)
                      have HE8 := Lib.hid (HE.out.later (below_drewN (Below.refl wy.heap.size wy) nq))
                      clear c0 c1 cf ce ceT hT0 hT1 hT2 HE
                      go_wp2_with (fail)
                      go_roundw
                      case rel => exact ⟨j + 1, by go_num, hlj, HE8⟩
                      case measure => simp [intOf]; omega
                    · obtain rfl : j = i := by omega
                      go_wp2_with (fail)
                      clear c0 c1
                      refine (cknown_any ok _).mono ?_
                      rintro e V6 ⟨rfl, hb⟩
                      have HE6 := Lib.hid (HE.out.later hb)
                      clear hb HE
                      go_wp2_with (fail)
                      refine leaves_many [D2, D1] _ HE6.out.nd (fun E hE => (HE6.out.ds E hE).1) (fun W' ho2 hs2 => ⟨.bool true, ?_, rfl, ?_⟩)
                      · simp [results, Try.f8, go_sem]
                      · exact ho2.below HE6.out.bel HE6.out.bel.size (fun k hk => (HE6.out.ds k hk).2)
  · have hlI : (60 : Int) < len := by omega
    clear hin
    go_wp2_with (fail)
    refine (cknown_any ok w).mono ?_
    rintro e w2 ⟨rfl, hb⟩
    go_wp2_with (fail)
    refine ⟨.bool true, ?_, rfl, hb⟩
    simp [results, Try.f8, go_sem]
theorem lawCBehind_any (a : Option Addr) (len cap : Nat) (O : Nat → OpA) (w : World) (hO : OpsAt w a len O) :
    Calls Try.prog 8 #[.slice a len cap] w fun e w' => e = .returned (.bool true) ∧ Below w.heap.size w w' :=
  callsIn_wide.1 (lawCBehind_in ok 8 (Nat.le_refl _) a len cap O w hO)
end
end Go.Proofs.Ytndddfkebbeemaa
