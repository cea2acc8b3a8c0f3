/-
  The walk of ClockNew, for whatever clock. (Printed by a tool of ours: tools/gen-clock*.py.)
-/
import Derived.Test.YtndddfkebbeemaaClGrow
import Derived.Test.YtndddfkebbeemaaClPair
import Derived.BigQuiet
namespace Go.Proofs.Ytndddfkebbeemaa
open Go.RowKit Go.Shelf Go
attribute [local go_sem] Oper.semAt_some

theorem new_mod (gone : Int) (n : Nat) (h1 : 0 < n) (h2 : n ≤ 1000) : ∃ t : Nat, t < n ∧ IntKind.i64.wrap ((IntKind.u64.wrap gone).tmod (IntKind.u64.wrap (n : Int))) = t := by
  have h0 : 0 ≤ IntKind.u64.wrap gone := by rw [IntKind.wrap_u64]; omega
  have hn : IntKind.u64.wrap (n : Int) = n := by rw [IntKind.wrap_u64]; omega
  have e1 : (IntKind.u64.wrap gone).tmod (n : Int) = (IntKind.u64.wrap gone) % (n : Int) := Int.tmod_eq_emod_of_nonneg h0
  have l1 := Int.emod_lt_of_pos (IntKind.u64.wrap gone) (show 0 < (n : Int) by omega)
  have l2 := Int.emod_nonneg (IntKind.u64.wrap gone) (show (n : Int) ≠ 0 by omega)
  refine ⟨((IntKind.u64.wrap gone) % (n : Int)).toNat, by omega, ?_⟩
  rw [hn, e1, IntWalk.i64_in _ ⟨by omega, by omega⟩]
  omega
section
variable {IsC : Thg → Nat → List Fr → Prop} (ok : ClOk IsC)
include ok
set_option maxRecDepth 100000 in
set_option maxHeartbeats 16000000 in
theorem lawCNew_in (q : Nat) (hm : 8 ≤ q) (frame gone : Int) (a : Option Addr) (len cap : Nat) (O : Nat → OpA) (w : World) (hI : InZ frame) (hO : OpsAt w a len O) :
    CallsIn Fence.wide q Try.prog 7 #[.slice a len cap, .int .i64 frame, .int .i64 gone] w fun e w' => e = .returned (.bool true) ∧ Below w.heap.size w w' := by
  have h1 : 1 ≤ q := by omega
  have HO := Lib.hid hO
  clear hO
  obtain ⟨i0, hi0, hz0, hz1, hz2⟩ := info_parts infoIntC
  refine callsIn_of_wp_marks Try.func7 rfl trivial ?_ rfl
  simp only [Try.ntmps7, List.size_toArray, List.length_cons, List.length_nil, Nat.reduceAdd, Nat.reduceSub, Array.replicate_succ, Array.replicate_zero, List.push_toArray, List.append_toArray, List.nil_append, List.cons_append]
  refine wpIn_wide.2 ?_
  by_cases hin : len ≤ 60
  · have hlI : ¬ (60 : Int) < len := by omega
    go_wp2_with (fail)
    refine (new_cl ok w).mono ?_
    rintro e w1 ⟨d, rfl, hK⟩
    have HK1 := Lib.hid hK
    clear hK
    go_wp2_with (fail)
    go_loopw [26] (fun iv wr => ∃ (k : Nat) (L : List Fr), iv = .int .i64 k ∧ k ≤ len ∧ L.length ≤ k ∧ Hid (KPT (fun X => IsC X d L) w (fun _ => False) wr)) (fun iv _ => len - (intOf iv).toNat)
    case atStart => exact ⟨0, [], rfl, Nat.zero_le _, Nat.le_refl _, HK1⟩
    case round =>
      clear HK1
      obtain ⟨k, L, rfl, hk, hLk, HK⟩ := hrel
      by_cases hlk : k < len
      · have hkI : (k : Int) < len := by omega
        obtain ⟨gi, oi, rfl, _, hok, hcI⟩ := HO.out.one k hlk
        obtain ⟨a0, a1⟩ := hcI wr HK.out.bel
        clear hcI
        generalize O k = op at a0 a1 hok
        obtain ⟨kind, fra⟩ := op
        dsimp only at a0 a1 hok
        have hL1 : L.length < 1000 := by omega
        by_cases h1 : kind = 1
        · subst h1
          go_wp2_with (fail)
          refine (remove_cl ok HK.out fra hok _ _ rfl rfl).mono ?_
          rintro e w2 ⟨rfl, hk2, _⟩
          have HK2 := Lib.hid hk2
          have hLn : (remL L fra).length ≤ k + 1 := by have := remL_len L fra; omega
          generalize remL L fra = L2 at hLn HK2
          clear hk2 HK a0 a1
          go_wp2_with (fail)
          go_roundw
          case rel => exact ⟨k + 1, L2, by go_num, hlk, hLn, HK2⟩
          case measure => simp [intOf]; omega
        · have hb1 : (kind == 1) = false := by simp; exact h1
          by_cases h3 : kind = 3
          · subst h3
            go_wp2_with (fail)
            refine (next_cl ok HK.out (nextL L).1.1 (nextL L).1.2 (nextL L).2 rfl).mono ?_
            rintro e w2 ⟨rfl, hk2, _⟩
            have HK2 := Lib.hid hk2
            have hLn : ((nextL L).2).length ≤ k + 1 := by have := nextL_len L; omega
            generalize (nextL L).2 = L2 at hLn HK2
            clear hk2 HK a0 a1
            go_wp2_with (fail)
            go_roundw
            case rel => exact ⟨k + 1, L2, by go_num, hlk, hLn, HK2⟩
            case measure => simp [intOf]; omega
          · have hb3 : (kind == 3) = false := by simp; exact h3
            go_wp2_with (fail)
            refine (add_cl ok HK.out fra hok hL1 _ _ rfl rfl).mono ?_
            rintro e w2 ⟨rfl, hk2, _⟩
            have HK2 := Lib.hid hk2
            have hLn : (addL L fra).length ≤ k + 1 := by have := addL_len L fra; omega
            generalize addL L fra = L2 at hLn HK2
            clear hk2 HK a0 a1
            go_wp2_with (fail)
            go_roundw
            case rel => exact ⟨k + 1, L2, by go_num, hlk, hLn, HK2⟩
            case measure => simp [intOf]; omega
      · obtain rfl : k = len := by omega
        obtain ⟨n, hn⟩ : ∃ n, L.length = n := ⟨_, rfl⟩
        have hn100 : n ≤ 100 := by omega
        have HC := Lib.hid (len_cl ok HK.out)
        rw [hn] at HC
        go_wp2_with (fail)
        refine HC.out.mono ?_
        rintro e w2 ⟨rfl, hb⟩
        have HK2 := Lib.hid (show KPT (fun X => IsC X d (nexts 0 L)) w (fun _ => False) w2 from HK.out.later hb)
        clear hb HK HC hLk hk
        go_wp2_with (fail)
        go_loopw [58] (fun iv wx => ∃ i : Nat, iv = .int .i64 i ∧ i ≤ 3 * n ∧ Hid (KPT (fun X => IsC X d (nexts i L)) w (fun _ => False) wx)) (fun iv _ => 3 * n - (intOf iv).toNat)
        case atStart => exact ⟨0, rfl, Nat.zero_le _, HK2⟩
        case round =>
          clear HK2
          rename World => wx
          obtain ⟨i, rfl, hi, HK⟩ := hrel
          by_cases hli : i < 3 * n
          · have hiI : (i : Int) < 3 * (n : Int) := by omega
            obtain ⟨x, hx⟩ := next_one (L := L) (by omega) i
            have HC := Lib.hid (next_cl ok HK.out x true _ hx)
            clear hx
            go_wp2_with (fail)
            refine HC.out.mono ?_
            rintro e w3 ⟨rfl, hk3, _⟩
            have HK3 := Lib.hid hk3
            clear hk3 HK HC
            go_wp2_with (fail)
            go_roundw
            case rel => exact ⟨i + 1, by go_num, hli, HK3⟩
            case measure => simp [intOf]; omega
          · obtain rfl : i = 3 * n := by omega
            have HQ := Lib.hid (nexts_quiet L (3 * n) (by omega))
            have HQL := Lib.hid ((nexts_len (3 * n) L).trans hn)
            have HCI := Lib.hid (KPT.inv_cl ok HK.out)
            clear hi hli hn
            generalize nexts (3 * n) L = Q at *
            obtain ⟨N, hN⟩ : ∃ N, namesL Q = N := ⟨_, rfl⟩
            have HNN := Lib.hid hN
            have HNL := Lib.hid (show N.length = n from by rw [← hN, namesL_len]; exact HQL.out)
            clear hN
            go_wp2_with (fail)
            obtain ⟨b0, hb0⟩ : ∃ b0, wx.heap.size = b0 := ⟨_, rfl⟩
            obtain ⟨W0, hW0⟩ : ∃ W0, wx.alloc (.cells #[.slice none 0 0] TIs) = W0 := ⟨_, rfl⟩
            have hbw : Below wx.heap.size wx W0 := by rw [← hW0]; exact (Below.refl _ _).alloc (Nat.le_refl _) _
            have hs0 : W0.heap.size = b0 + 1 := by rw [← hW0, ← hb0]; simp
            have HX0 := Lib.hid (show Boxed W0 b0 TIs (.slice none 0 0) from by rw [← hW0, ← hb0]; exact Boxed.new wx _ _)
            have HLO := Lib.hid (show w.heap.size ≤ b0 from by rw [← hb0]; exact HK.out.bel.size)
            have HK0 := Lib.hid (HK.out.add (Q := fun k => k = b0) hbw (fun k hk => .inr ⟨by omega, by omega⟩))
            clear hbw HK
            rw [hW0]
            clear hW0 hs0
            subst hb0
            generalize wx.heap.size = bb at *
            refine (all_cl ok HK0.out).mono ?_
            rintro e W1 ⟨g0, lb0, own0, rfl, hb, _, hnil0, _, _⟩
            have HK1 := Lib.hid (HK0.out.later hb)
            have HX1 := Lib.hid (show Boxed W1 bb TIs (.slice none 0 0) from (hb.block bb HX0.out.lt).trans HX0.out)
            clear hb HK0 HX0
            go_wp2_with (fail)
            clear hnil0
            refine (all_cl ok HK1.out).mono ?_
            rintro e W2 ⟨g1, lb1, own1, rfl, hb, hent, _, hown, hT⟩
            rw [HNN.out] at hT
            have HK2 := Lib.hid (HK1.out.later hb)
            have HBX1 := Lib.hid (show Boxed W2 bb TIs (.slice none 0 0) from (hb.block bb HX1.out.lt).trans HX1.out)
            have HT1 := Lib.hid hT
            have HENT1 := Lib.hid hent
            have HOWN1 := Lib.hid (show ∀ k, own1 k → k < W2.heap.size ∧ k ≠ bb from fun k hk => ⟨(hown k hk).1, fun e => (hown k hk).2 e⟩)
            have HLN1 := Lib.hid (show N.length ≤ 1000 from by rw [HNL.out]; omega)
            clear hb hent hown hT HK1 HX1
            go_wp2_with (fail)
            have hbx1 : bb < W2.heap.size := HBX1.out.lt
            have hsq1 := HT1.out.grow (q - 1) (by omega) bb hbx1 (by rw [boxOwn_of HBX1.out.cell]; rfl) HOWN1.out
            refine (wpIn_wide (n := q)).1 ?_
            refine range_o1 rfl h1 (gf := g1) (lb := lb1) (by simp [go_sem]) trivial HENT1.out hsq1 (fun x => .int .i64 ((N[x.val]'x.isLt : Nat) : Int)) (fun x => rfl) KpG.trans (fun W l o o' hl h hc => KpG.put l o' hbx1 hl h hc)
              (GrowN W2 bb N) (fun _ _ _ => False) (growN_own N hbx1) (fun _ _ _ _ _ h _ _ => h.elim) ⟨_, HBX1.out, World.ownsRow_nil _ _ _ _, Only.refl _ _⟩ 10 ?assign1 ?body1 ?done1 (fun _ _ _ _ _ _ h _ => h.elim)
            case assign1 =>
              intro l' pre x V K hl' hI hK
              have HK := Lib.hid hK
              have HI := Lib.hid hI
              clear hK hI hsq1
              gi_wp2_with (fail)
              have h9 := HK.out V (KeepsFrom.refl _ _) HI.out (KpG.of_below (by obtain ⟨_, _, _, ho⟩ := HI.out; have := ho.size; omega) (Below.refl _ _))
              simpa using h9
            case body1 =>
              rintro l' pre x U0 V hl' ⟨v, hv, hr, ho⟩ hkp0 hlen2
              obtain ⟨hxl, _⟩ := next_of_some hlen2
              have HKP0 := Lib.hid hkp0
              have hpl : pre.length < N.length := by rw [← hxl]; exact x.isLt
              obtain ⟨va, vc, hve, _⟩ := owns_slice hr
              subst hve
              have HV := Lib.hid hv
              have HR := Lib.hid hr
              have HO9 := Lib.hid ho
              have hle := ho.size
              have hlp : pre.length ≤ 1000 := by have := HLN1.out; omega
              have cv := hv.cell
              have fv := hv.frozen
              clear hv hr ho hlen2 hsq1 hkp0 hxl hpl
              gi_wp2_with (gi_at_builtin; refine wpListIn_append_one V rfl _ _ TIs rfl W2.heap.size TIn i0 _ 1 8 Try.underlying38 hi0 hz0 hz1 hz2 rfl (by decide) _ _ _ #[.int .i64 ((N[x.val]'x.isLt : Nat) : Int)] HR.out hle rfl rfl rfl (oneI _) hlp (by decide) ?_)
              intro v' w1 hown hg hat
              obtain ⟨hv1, ⟨hb2, hr2, ho2⟩, hkf, hkp⟩ := grow_step HV.out hteI HR.out HO9.out hown hg hat
              obtain ⟨va2, vc2, hve, _⟩ := owns_slice hown
              subst hve
              have HB2 := Lib.hid hb2
              have HR2 := Lib.hid hr2
              have HO2 := Lib.hid ho2
              have HKF := Lib.hid hkf
              have HKP := Lib.hid hkp
              have cv := hv1.cell
              have fv := hv1.frozen
              clear hv1 hb2 hr2 ho2 hkf hkp hown hg hat
              gi_wp2_with (fail)
              exact ⟨HKF.out, HKP0.out.trans HKP.out, _, HB2.out, by
                rw [List.length_append, toldL_one, recV_append, recV_single]
                exact HR2.out, HO2.out⟩
            case done1 =>
              rintro D1 xs V1 hD1 hxs hI hDk1
              have hlx : xs.length = N.length := by
                have := congrArg List.length hxs
                simpa using this
              obtain ⟨v1, hv, hr, ho⟩ := hI
              rw [toldL_all hxs, hlx] at hr
              clear hlx hxs hsq1
              have hDlt1 : D1 < V1.heap.size := (Array.getElem?_eq_some_iff.1 hDk1).1
              have HW := Lib.hid (show NwAt (fun X => IsC X d Q) w bb v1 N D1 V1 from by
                refine ⟨HK2.out.more (Q := fun k => k = bb ∨ v1.ownBlock = some k ∨ k = D1) ho (fun k hk => hk) (fun k hk => by rw [hk]; exact HLO.out) (fun k hk => ?_), ⟨hv, owns_base hr (fun k hk => Nat.le_trans HK2.out.bel.size (hr.lt k hk).1), HLO.out⟩, hDk1, Nat.le_trans HK2.out.bel.size hD1⟩
                rcases hk with h | h | h
                · exact .inl h
                · exact .inr (hr.lt k h)
                · exact .inr ⟨by rw [h]; exact hD1, by rw [h]; exact hDlt1⟩)
              clear hv hr ho hDk1 hDlt1 hD1 HK2 HBX1 HT1 HENT1 HOWN1 HLO HLN1
              obtain ⟨la, lc, rfl⟩ := HW.out.bx.slice
              have c0 := HW.out.bx.box.cell
              rw [HNL.out] at c0
              have hfr : True := trivial
              by_cases hz : n = 0
              · have hn0 : ¬ (0 : Int) < n := by omega
                have hdn1 : decide ((0 : Int) < (n : Int)) = false := decide_eq_false hn0
                have hdn2 : decide (0 < n) = false := decide_eq_false (by omega)
                by_cases hf : frame < 0
                · have hfd : decide (frame < 0) = true := decide_eq_true hf
                  clear hfr
                  go_wp2_with (fail)
                  refine (cknown_any ok _).mono ?_
                  rintro e V9 ⟨rfl, hb⟩
                  have HW9 := Lib.hid (HW.out.later hb)
                  clear hb HW
                  go_wp2_with (fail)
                  refine leaves_many [D1] _ (List.nodup_cons.2 ⟨List.not_mem_nil, List.nodup_nil⟩) (fun E hE => by
                    rw [List.mem_singleton] at hE
                    subst hE
                    exact HW9.out.dk) (fun W' ho2 hs2 => ⟨.bool true, ?_, rfl, ?_⟩)
                  · simp [results, Try.f7, go_sem]
                  · exact ho2.below HW9.out.kp.bel HW9.out.kp.bel.size (fun k hk => by
                      rw [List.mem_singleton] at hk
                      subst hk
                      exact HW9.out.dl)
                · have hf2 : 0 ≤ frame := by omega
                  have hfd : decide (frame < 0) = false := decide_eq_false hf
                  cases hh : hasL Q frame with
                  | true =>
                    have HC := Lib.hid (has_cl ok HW.out.kp frame hI true hh)
                    clear hh
                    go_wp2_with (fail)
                    refine HC.out.mono ?_
                    rintro e V6 ⟨rfl, hb⟩
                    have HW6 := Lib.hid (HW.out.later hb)
                    clear hb HC HW
                    go_wp2_with (fail)
                    refine (cknown_any ok _).mono ?_
                    rintro e V9 ⟨rfl, hb⟩
                    have HW9 := Lib.hid (HW6.out.later hb)
                    clear hb HW6
                    go_wp2_with (fail)
                    refine leaves_many [D1] _ (List.nodup_cons.2 ⟨List.not_mem_nil, List.nodup_nil⟩) (fun E hE => by
                      rw [List.mem_singleton] at hE
                      subst hE
                      exact HW9.out.dk) (fun W' ho2 hs2 => ⟨.bool true, ?_, rfl, ?_⟩)
                    · simp [results, Try.f7, go_sem]
                    · exact ho2.below HW9.out.kp.bel HW9.out.kp.bel.size (fun k hk => by
                        rw [List.mem_singleton] at hk
                        subst hk
                        exact HW9.out.dl)
                  | false =>
                    have HC := Lib.hid (has_cl ok HW.out.kp frame hI false hh)
                    obtain ⟨t1, t2⟩ := add_new hf hh
                    have HAD := Lib.hid (fun W (hW : NwAt (fun X => IsC X d Q) w bb (.slice la N.length lc) N D1 W) => add_cl ok hW.kp frame hI (by rw [HQL.out]; omega) 0 (Q ++ [(frame.toNat, true, true)]) t1 t2)
                    clear hh t1 t2
                    go_wp2_with (fail)
                    refine HC.out.mono ?_
                    rintro e V6 ⟨rfl, hb⟩
                    have HW6 := Lib.hid (HW.out.later hb)
                    clear hb HC HW
                    go_wp2_with (fail)
                    refine (HAD.out _ HW6.out).mono ?_
                    rintro e V7 ⟨rfl, hk7, ho⟩
                    have HW7 := Lib.hid (show NwAt (fun X => IsC X d (rotZ Q (frame.toNat, true, true) 0)) w bb (.slice la N.length lc) N D1 V7 from by rw [rotZ_zero]; exact HW6.out.turn hk7 ho)
                    clear hk7 ho HAD HW6
                    have c0 := HW7.out.bx.box.cell
                    rw [HNL.out] at c0
                    go_wp2_with (fail)
                    clear c0
                    go_loopw [133] (fun iv wx => ∃ i : Nat, iv = .int .i64 i ∧ i ≤ n ∧ Hid (NwAt (fun X => IsC X d (rotZ Q (frame.toNat, true, true) i)) w bb (.slice la N.length lc) N D1 wx)) (fun iv _ => n - (intOf iv).toNat)
                    case atStart => exact ⟨0, rfl, Nat.zero_le _, HW7⟩
                    case round =>
                      clear HW7
                      rename World => wy
                      obtain ⟨i, rfl, hi, HW⟩ := hrel
                      by_cases hli : i < n
                      · omega
                      · obtain rfl : i = n := by omega
                        go_wp2_with (fail)
                        refine (cknown_any ok _).mono ?_
                        rintro e V9 ⟨rfl, hb⟩
                        have HW9 := Lib.hid (HW.out.later hb)
                        clear hb HW
                        go_wp2_with (fail)
                        refine leaves_many [D1] _ (List.nodup_cons.2 ⟨List.not_mem_nil, List.nodup_nil⟩) (fun E hE => by
                          rw [List.mem_singleton] at hE
                          subst hE
                          exact HW9.out.dk) (fun W' ho2 hs2 => ⟨.bool true, ?_, rfl, ?_⟩)
                        · simp [results, Try.f7, go_sem]
                        · exact ho2.below HW9.out.kp.bel HW9.out.kp.bel.size (fun k hk => by
                            rw [List.mem_singleton] at hk
                            subst hk
                            exact HW9.out.dl)
              · have hn0 : (0 : Int) < n := by omega
                have hdn1 : decide ((0 : Int) < (n : Int)) = true := decide_eq_true hn0
                have hin1 : ¬ (n : Int) = 0 := by omega
                have hun : IntKind.u64.wrap (n : Int) = n := by rw [IntKind.wrap_u64]; omega
                have hu0 : ¬ IntKind.u64.wrap (n : Int) = 0 := by rw [hun]; exact hin1
                have hu1 : (IntKind.u64.wrap (n : Int) == 0) = false := by rw [hun, beq_eq_false_iff_ne]; exact hin1
                clear hun
                obtain ⟨t, htn, hT⟩ := new_mod gone n (by omega) (by omega)
                have htI : (t : Int) < n := by omega
                have hlt : t < Q.length := by rw [HQL.out]; exact htn
                obtain ⟨y, hy⟩ : ∃ y, (Q[t]'hlt).1 = y := ⟨_, rfl⟩
                have hny := names_at hlt
                obtain ⟨t1, t2⟩ := remL_at HCI.out hlt
                have hyl := name_le HCI.out (List.getElem_mem hlt)
                rw [hy] at t1 t2 hny hyl
                rw [HNN.out] at hny
                have HT1 := Lib.hid t1
                have HT2 := Lib.hid t2
                have HNE := Lib.hid (show ∀ i (hi : i < Q.length), i ≠ t → (Q[i]'hi).1 ≠ y from fun i hi hne => by
                  rcases Nat.lt_or_gt_of_ne hne with h | h
                  · rw [← hy]; exact names_ne HCI.out hlt h
                  · rw [← hy]; exact (names_ne HCI.out hi h).symm)
                obtain ⟨g0', rfl, ce⟩ := HW.out.bx.at t y hny
                have HNY := Lib.hid hny
                clear t1 t2 hy hny
                have hT0 : 0 ≤ IntKind.i64.wrap ((IntKind.u64.wrap gone).tmod (IntKind.u64.wrap (n : Int))) := by rw [hT]; exact Int.natCast_nonneg t
                have hTn : IntKind.i64.wrap ((IntKind.u64.wrap gone).tmod (IntKind.u64.wrap (n : Int))) < n := by rw [hT]; exact htI
                have hT2 : ¬ IntKind.i64.wrap ((IntKind.u64.wrap gone).tmod (IntKind.u64.wrap (n : Int))) < 0 := by rw [hT]; omega
                have ceT : V1.cell? ⟨g0', (IntKind.i64.wrap ((IntKind.u64.wrap gone).tmod (IntKind.u64.wrap (n : Int)))).toNat, none⟩ = some (.int .i64 y) := by rw [hT]; exact ce
                clear hT
                go_wp2_with (fail)
                go_quiet (fail)
                have HW8 := Lib.hid (HW.out.later (below_drewN (Below.refl V1.heap.size V1) nq))
                clear c0 ce ceT hT0 hTn hT2 HW hu0 hu1
                go_wp2_with (fail)
                refine (copy_c2 ok HW8.out.kp).mono ?_
                rintro e V2 ⟨d2, rfl, hk2, ho⟩
                have HW2 := Lib.hid (HW8.out.turn hk2 ho)
                clear hk2 ho HW8
                go_wp2_with (fail)
                refine (remove_c2 ok HW2.out.kp (y : Int) ⟨by omega, hyl⟩ 0 _ HT1.out HT2.out).mono ?_
                rintro e V3 ⟨rfl, hk3, ho⟩
                have HW3 := Lib.hid (show NwAt (C2 IsC d Q d2 (rotQ (Q.eraseIdx t) (cutN t 0))) w bb (.slice (some ⟨g0', 0, none⟩) N.length lc) N D1 V3 from by rw [show cutN t 0 = 0 from by unfold cutN; rw [if_pos (Nat.zero_le _)], rotQ_zero]; exact HW2.out.turn hk3 ho)
                clear hk3 ho HW2
                have c0 := HW3.out.bx.box.cell
                rw [HNL.out] at c0
                go_wp2_with (fail)
                clear c0
                have HQE := Lib.hid (allQ_erase HQ.out t)
                go_loopw [94] (fun iv wx => ∃ i : Nat, iv = .int .i64 i ∧ i ≤ n ∧ Hid (NwAt (C2 IsC d Q d2 (rotQ (Q.eraseIdx t) (cutN t i))) w bb (.slice (some ⟨g0', 0, none⟩) N.length lc) N D1 wx)) (fun iv _ => n - (intOf iv).toNat)
                case atStart => exact ⟨0, rfl, Nat.zero_le _, HW3⟩
                case round =>
                  clear HW3
                  rename World => wz
                  obtain ⟨i, rfl, hi, HW⟩ := hrel
                  have c0 := HW.out.bx.box.cell
                  rw [HNL.out] at c0
                  by_cases hli : i < n
                  · have hiI : (i : Int) < n := by omega
                    have hlq : i < Q.length := by rw [HQL.out]; exact hli
                    by_cases hit : i = t
                    · subst hit
                      obtain ⟨_, eg, ce⟩ := HW.out.bx.at i y HNY.out
                      injection eg with eg
                      injection eg with eg
                      subst eg
                      have hyy : ((y : Int) == y) = true := by simp
                      have HWn := Lib.hid (show NwAt (C2 IsC d Q d2 (rotQ (Q.eraseIdx i) (cutN i (i + 1)))) w bb (.slice (some ⟨g0', 0, none⟩) N.length lc) N D1 wz from by rw [cutN_same]; exact HW.out)
                      clear HW
                      go_wp2_with (fail)
                      go_roundw
                      case rel => exact ⟨i + 1, by go_num, hli, HWn⟩
                      case measure => simp [intOf]; omega
                    · obtain ⟨x, hx⟩ : ∃ x, (Q[i]'hlq).1 = x := ⟨_, rfl⟩
                      have hna := names_at hlq
                      have hne := HNE.out i hlq hit
                      obtain ⟨hcl, hce⟩ := erase_at hlt hlq hit
                      have hnx := rotQ_next HQE.out hcl
                      rw [hce, hx, cutN_next hit] at hnx
                      rw [hx] at hna hne
                      rw [HNN.out] at hna
                      obtain ⟨_, eg, ce⟩ := HW.out.bx.at i x hna
                      injection eg with eg
                      injection eg with eg
                      subst eg
                      have HNA := Lib.hid hna
                      have HC := Lib.hid (next_c2 ok HW.out.kp x true _ hnx)
                      have hyy : ((x : Int) == y) = false := by rw [beq_eq_false_iff_ne]; omega
                      have hyy2 : ¬ (x : Int) = y := by omega
                      clear hx hna hne hcl hce hnx
                      go_wp2_with (fail)
                      refine HC.out.mono ?_
                      rintro e w3 ⟨rfl, hk3, ho⟩
                      have HW3 := Lib.hid (HW.out.turn hk3 ho)
                      clear hk3 ho HW HC c0 ce
                      obtain ⟨_, eg, ce⟩ := HW3.out.bx.at i x HNA.out
                      injection eg with eg
                      injection eg with eg
                      subst eg
                      have c0 := HW3.out.bx.box.cell
                      rw [HNL.out] at c0
                      have hxx : ((x : Int) == x) = true := by simp
                      go_wp2_with (fail)
                      go_roundw
                      case rel => exact ⟨i + 1, by go_num, hli, HW3⟩
                      case measure => simp [intOf]; omega
                  · obtain rfl : i = n := by omega
                    have HX := Lib.hid (show NwAt (fun X => IsC X d Q) w bb (.slice (some ⟨g0', 0, none⟩) N.length lc) N D1 wz from ⟨(KPT.of_two HW.out.kp).1, HW.out.bx, HW.out.dk, HW.out.dl⟩)
                    clear HW hi hli hyl HT1 HT2 HNE HQE
                    generalize hnI : i = n at *
                    by_cases hf : frame < 0
                    · have hfd : decide (frame < 0) = true := decide_eq_true hf
                      clear hfr c0
                      go_wp2_with (fail)
                      refine (cknown_any ok _).mono ?_
                      rintro e V9 ⟨rfl, hb⟩
                      have HW9 := Lib.hid (HX.out.later hb)
                      clear hb HX
                      go_wp2_with (fail)
                      refine leaves_many [D1] _ (List.nodup_cons.2 ⟨List.not_mem_nil, List.nodup_nil⟩) (fun E hE => by
                        rw [List.mem_singleton] at hE
                        subst hE
                        exact HW9.out.dk) (fun W' ho2 hs2 => ⟨.bool true, ?_, rfl, ?_⟩)
                      · simp [results, Try.f7, go_sem]
                      · exact ho2.below HW9.out.kp.bel HW9.out.kp.bel.size (fun k hk => by
                          rw [List.mem_singleton] at hk
                          subst hk
                          exact HW9.out.dl)
                    · have hf2 : 0 ≤ frame := by omega
                      have hfd : decide (frame < 0) = false := decide_eq_false hf
                      cases hh : hasL Q frame with
                      | true =>
                        have HC := Lib.hid (has_cl ok HX.out.kp frame hI true hh)
                        clear hh
                        go_wp2_with (fail)
                        refine HC.out.mono ?_
                        rintro e V6 ⟨rfl, hb⟩
                        have HW6 := Lib.hid (HX.out.later hb)
                        clear hb HC HX
                        go_wp2_with (fail)
                        refine (cknown_any ok _).mono ?_
                        rintro e V9 ⟨rfl, hb⟩
                        have HW9 := Lib.hid (HW6.out.later hb)
                        clear hb HW6
                        go_wp2_with (fail)
                        refine leaves_many [D1] _ (List.nodup_cons.2 ⟨List.not_mem_nil, List.nodup_nil⟩) (fun E hE => by
                          rw [List.mem_singleton] at hE
                          subst hE
                          exact HW9.out.dk) (fun W' ho2 hs2 => ⟨.bool true, ?_, rfl, ?_⟩)
                        · simp [results, Try.f7, go_sem]
                        · exact ho2.below HW9.out.kp.bel HW9.out.kp.bel.size (fun k hk => by
                            rw [List.mem_singleton] at hk
                            subst hk
                            exact HW9.out.dl)
                      | false =>
                        have HC := Lib.hid (has_cl ok HX.out.kp frame hI false hh)
                        obtain ⟨t1, t2⟩ := add_new hf hh
                        have HAD := Lib.hid (fun W (hW : NwAt (fun X => IsC X d Q) w bb (.slice (some ⟨g0', 0, none⟩) N.length lc) N D1 W) => add_cl ok hW.kp frame hI (by rw [HQL.out]; omega) 0 (Q ++ [(frame.toNat, true, true)]) t1 t2)
                        clear hh t1 t2
                        go_wp2_with (fail)
                        refine HC.out.mono ?_
                        rintro e V6 ⟨rfl, hb⟩
                        have HW6 := Lib.hid (HX.out.later hb)
                        clear hb HC HX
                        go_wp2_with (fail)
                        refine (HAD.out _ HW6.out).mono ?_
                        rintro e V7 ⟨rfl, hk7, ho⟩
                        have HW7 := Lib.hid (show NwAt (fun X => IsC X d (rotZ Q (frame.toNat, true, true) 0)) w bb (.slice (some ⟨g0', 0, none⟩) N.length lc) N D1 V7 from by rw [rotZ_zero]; exact HW6.out.turn hk7 ho)
                        clear hk7 ho HAD HW6
                        have c0 := HW7.out.bx.box.cell
                        rw [HNL.out] at c0
                        go_wp2_with (fail)
                        clear c0
                        go_loopw [133] (fun iv wx => ∃ i : Nat, iv = .int .i64 i ∧ i ≤ n ∧ Hid (NwAt (fun X => IsC X d (rotZ Q (frame.toNat, true, true) i)) w bb (.slice (some ⟨g0', 0, none⟩) N.length lc) N D1 wx)) (fun iv _ => n - (intOf iv).toNat)
                        case atStart => exact ⟨0, rfl, Nat.zero_le _, HW7⟩
                        case round =>
                          clear HW7
                          rename World => wy
                          obtain ⟨i, rfl, hi, HW⟩ := hrel
                          by_cases hli : i < n
                          · have hiI : (i : Int) < n := by omega
                            have hlq : i < Q.length := by rw [HQL.out]; exact hli
                            obtain ⟨x, hx⟩ : ∃ x, (Q[i]'hlq).1 = x := ⟨_, rfl⟩
                            have hnx := rotZ_next (z := (frame.toNat, true, true)) HQ.out hlq
                            have hna := names_at hlq
                            rw [hx] at hnx hna
                            rw [HNN.out] at hna
                            have HNA := Lib.hid hna
                            have HC := Lib.hid (next_cl ok HW.out.kp x true _ hnx)
                            have hxx : ((x : Int) == x) = true := by simp
                            clear hx hnx hna
                            go_wp2_with (fail)
                            refine HC.out.mono ?_
                            rintro e w3 ⟨rfl, hk3, ho⟩
                            have HW3 := Lib.hid (HW.out.turn hk3 ho)
                            clear hk3 ho HW HC
                            obtain ⟨_, eg, ce⟩ := HW3.out.bx.at i x HNA.out
                            injection eg with eg
                            injection eg with eg
                            subst eg
                            have c0 := HW3.out.bx.box.cell
                            rw [HNL.out] at c0
                            go_wp2_with (fail)
                            go_roundw
                            case rel => exact ⟨i + 1, by go_num, hli, HW3⟩
                            case measure => simp [intOf]; omega
                          · obtain rfl : i = n := by omega
                            go_wp2_with (fail)
                            refine (cknown_any ok _).mono ?_
                            rintro e V9 ⟨rfl, hb⟩
                            have HW9 := Lib.hid (HW.out.later hb)
                            clear hb HW
                            go_wp2_with (fail)
                            refine leaves_many [D1] _ (List.nodup_cons.2 ⟨List.not_mem_nil, List.nodup_nil⟩) (fun E hE => by
                              rw [List.mem_singleton] at hE
                              subst hE
                              exact HW9.out.dk) (fun W' ho2 hs2 => ⟨.bool true, ?_, rfl, ?_⟩)
                            · simp [results, Try.f7, go_sem]
                            · exact ho2.below HW9.out.kp.bel HW9.out.kp.bel.size (fun k hk => by
                                rw [List.mem_singleton] at hk
                                subst hk
                                exact HW9.out.dl)
  · have hlI : (60 : Int) < len := by omega
    clear hin
    go_wp2_with (fail)
    refine (cknown_any ok w).mono ?_
    rintro e w2 ⟨rfl, hb⟩
    go_wp2_with (fail)
    refine ⟨.bool true, ?_, rfl, hb⟩
    simp [results, Try.f7, go_sem]
theorem lawCNew_any (frame gone : Int) (a : Option Addr) (len cap : Nat) (O : Nat → OpA) (w : World) (hI : InZ frame) (hO : OpsAt w a len O) :
    Calls Try.prog 7 #[.slice a len cap, .int .i64 frame, .int .i64 gone] w fun e w' => e = .returned (.bool true) ∧ Below w.heap.size w w' :=
  callsIn_wide.1 (lawCNew_in ok 8 (Nat.le_refl _) frame gone a len cap O w hI hO)
end
end Go.Proofs.Ytndddfkebbeemaa
