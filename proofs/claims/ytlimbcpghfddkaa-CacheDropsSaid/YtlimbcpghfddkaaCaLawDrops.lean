/-
  The walk of CacheDrops.
-/
import Derived.Test.YtlimbcpghfddkaaCaDr
import Derived.Deep.DeepCutAuto
import Derived.Deep.CutBlock
namespace Go.Proofs.Ytlimbcpghfddkaa
open Go.RowKit Go Go.Maps

theorem make_intsK (n : Nat) (h1 : n ≤ 1000) : ∃ Z : Array Value, (∀ i, i < n → Z[i]? = some (.int .i64 0)) ∧
    ∀ W, (Instr.makeSlice 52 (.int .i64 n) (.int .i64 n)).run Try.prog W = .ok (.slice (some ⟨W.heap.size, 0, none⟩) n n) (W.alloc (.cells Z 3)) := by
  obtain ⟨i0, hi, hz0, hz1, hz2⟩ := info_parts intInfoC
  refine ⟨madeCells #[Value.int .i64 0] n, fun i h => ?_, fun W => ?_⟩
  · have h1 := made_at #[Value.int .i64 0] n i (by simpa using h)
    rw [Array.getElem?_toList] at h1
    have : i % (#[Value.int .i64 0] : Array Value).size = 0 := Nat.mod_one i
    rw [h1, this]; rfl
  · have h := run_make (P := Try.prog) W 52 3 i0 _ Try.underlying52 hi hz0 .i64 .i64 n n (by omega) (by omega) (by rw [hz2]; omega) (by omega)
    rw [hz1, Int.toNat_natCast, Nat.mul_one] at h
    exact h
structure DpAt (B : Nat) (w : World) (n ob : Nat) (K : KC) (A : Ca) (o : Nat → Nat) (W : World) : Prop where
  k : KAt B w K A W
  d : DrI A n o
  row : RowAt W ob n (fun i => .int .i64 (o i))
  off : ¬ K.all A.L ob
  obB : B ≤ ob
section
variable {B n ob : Nat} {w W W' : World} {K K' : KC} {A A' : Ca} {o o' : Nat → Nat}
theorem DpAt.later (H : DpAt B w n ob K A o W) (h : Below W.heap.size W W') : DpAt B w n ob K A o W' := ⟨H.k.later h, H.d, H.row.later h, H.off, H.obB⟩
theorem DpAt.turn (H : DpAt B w n ob K A o W) {β : Int → Nat} (T : KTurn W K A noB β K' A' W') : KAt B w K' A' W' ∧ RowAt W' ob n (fun i => .int .i64 (o i)) ∧ ¬ K'.all A'.L ob :=
  ⟨H.k.same T, H.row.only T.only (fun h => h.elim H.off id), T.off H.off H.row.lt id⟩
theorem DpAt.set {f m : Nat} (H1 : KAt B w K A W) (D : DrI A n (updC o f m)) (H2 : RowAt W ob n (fun i => .int .i64 (o i))) (H3 : ¬ K.all A.L ob) (H4 : B ≤ ob) : DpAt B w n ob K A (updC o f m) (W.setCell ⟨ob, f, none⟩ (.int .i64 m)) := by
  have hst := Only.setCell (S := fun k => k = ob) W ⟨ob, f, none⟩ rfl (.int .i64 m)
  refine ⟨H1.only hst (fun k hk e => H3 (by rw [← e]; exact hk)) (fun k hk => by omega), D, (H2.setCell f _).ext (fun i _ => ?_), H3, H4⟩
  unfold updV updC
  split <;> rfl
end
/-- Behind the drop. -/
structure DlAt (B : Nat) (w : World) (n ob : Nat) (o : Nat → Nat) (f : Nat) (K : KC) (A : Ca) (W : World) : Prop where
  k : KAt B w K A W
  row : RowAt W ob n (fun i => .int .i64 (o i))
  gone : o f = 0 → findL A.L (f : Int) = none
  left : ∀ i : Nat, i < n → ¬ (i = f ∧ o f = 0) → ∃ S, findL A.L i = some S ∧ S.ch.length + o i = S.n
section
variable {B n ob f : Nat} {w W W' : World} {K K' : KC} {A A' : Ca} {o : Nat → Nat}
theorem DlAt.later (H : DlAt B w n ob o f K A W) (h : Below W.heap.size W W') : DlAt B w n ob o f K A W' := ⟨H.k.later h, H.row.later h, H.gone, H.left⟩
theorem DpAt.dropped (H : DpAt B w n ob K A o W) {β : Int → Nat} (T : KTurn W K A noB β K' (A.drop (f : Int)).2 W') (hf : f < n) : DlAt B w n ob o f K' (A.drop (f : Int)).2 W' := by
  obtain ⟨a1, a2, a3⟩ := H.turn T
  refine ⟨a1, a2, fun h => ?_, fun i hi hn => ?_⟩
  · rw [H.d.drop hf, if_pos h]
    show findL (cutL A.L f) f = none
    rw [findL_cut H.k.at_.inv.rise, if_pos rfl]
  · obtain ⟨S, h1, h2, _⟩ := H.d.sl i hi
    refine ⟨S, ?_, h2⟩
    rw [H.d.drop hf]
    by_cases h : o f = 0
    · rw [if_pos h]
      show findL (cutL A.L f) i = some S
      rw [findL_cut H.k.at_.inv.rise, if_neg (fun e => hn ⟨by omega, h⟩)]
      exact h1
    · rw [if_neg h]
      exact h1
end
set_option maxRecDepth 100000 in
set_option maxHeartbeats 16000000 in
theorem lawDrops_any (size n taken : Int) (bk : Nat) (frame : Int) (w : World) : Calls Try.prog 8 #[.int .i64 size, .int .i64 n, .int .i64 taken, .int .u64 bk, .int .i64 frame] w fun e w' => e = .returned (.bool true) ∧ Below w.heap.size w w' := by
  cases hm : mayC size 0 with
  | false =>
    have HN := Lib.hid (knew_no size w hm)
    clear hm
    go_enter Try.func8, Try.ntmps8
    go_wp2_with (fail)
    refine HN.out.mono ?_
    rintro e w1 ⟨rfl, hb⟩
    have HB := Lib.hid hb
    clear hb HN
    go_wp2_with (fail)
    refine (kknown_any w1).mono ?_
    rintro e w3 ⟨rfl, hb⟩
    have HB2 := Lib.hid (HB.out.trans (hb.mono HB.out.size))
    clear hb HB
    go_wp2_with (fail)
    go_ret
    exact ⟨rfl, HB2.out⟩
  | true =>
    have hm' := hm
    unfold mayC at hm'
    obtain ⟨m1, m2, m3, m4, m5, m6⟩ := of_decide_eq_true hm'
    obtain ⟨sz, rfl⟩ : ∃ sz : Nat, size = sz := ⟨size.toNat, by omega⟩
    have HMN := Lib.hid (show mayC sz (0 : Nat) = true from hm)
    have HN := Lib.hid (knew_any sz w hm)
    clear hm hm' m2 m3 m4 m5 m6
    by_cases hok : 1 ≤ n ∧ n ≤ 8 ∧ 0 ≤ taken ∧ taken ≤ 60
    · obtain ⟨nn, rfl⟩ : ∃ nn : Nat, n = nn := ⟨n.toNat, by omega⟩
      obtain ⟨tk, rfl⟩ : ∃ tk : Nat, taken = tk := ⟨taken.toNat, by omega⟩
      obtain ⟨Z, hZ, hmk⟩ := make_bytesK
      have HZ := Lib.hid hZ
      obtain ⟨Zn, hZn, hmk2⟩ := make_intsK nn (by omega)
      have HZN := Lib.hid hZn
      have g1 : ¬ (nn : Int) < 1 := by omega
      have g2 : ¬ 8 < (nn : Int) := by omega
      have g3 : ¬ 60 < (tk : Int) := by omega
      have g4 : nn ≤ 8 := by omega
      have g5 : tk ≤ 60 := by omega
      have g6 : 1 ≤ nn := by omega
      obtain ⟨bit, hbit⟩ : ∃ bit : Nat → Bool, ∀ k : Nat, (((bk : Int) / 2 ^ k).tmod 2 == 1) = bit k := ⟨fun k => (((bk : Int) / 2 ^ k).tmod 2 == 1), fun _ => rfl⟩
      have HBIT := Lib.hid hbit
      clear hok hZ hZn hbit
      go_enter Try.func8, Try.ntmps8
      go_wp2_with (fail)
      refine HN.out.mono ?_
      intro e1 w1 h
      obtain ⟨K0, rfl, hK, hlow⟩ := KAt.of_new (Below.refl w.heap.size w) (Nat.le_refl _) h
      have H0 := Lib.hid (show KAt w.heap.size w K0 (colA sz 0) w1 from hK)
      have HR := Lib.hid (RowAt.new w1 Zn 3 nn (fun _ => .int .i64 0) HZN.out)
      have hba : Below w1.heap.size w1 (w1.alloc (.cells Zn 3)) := (Below.refl _ _).alloc (Nat.le_refl _) _
      have H1 := Lib.hid (H0.out.later hba)
      have HO := Lib.hid (show ¬ K0.all (colA sz 0).L w1.heap.size from fun h => by have := H0.out.at_.lt _ h; omega)
      have HLE := Lib.hid H0.out.le
      clear hK h HN hlow hba H0
      go_wp2_with (fail)
      generalize w1.alloc (.cells Zn 3) = w2 at *
      generalize w1.heap.size = ob at *
      clear hmk2
      go_loopw [51] (fun i wr => ∃ (k : Nat) (K : KC), k ≤ nn ∧ i = .int .i64 k ∧ K.c = K0.c ∧ Hid (KAt w.heap.size w K (colA sz k) wr) ∧ Hid (RowAt wr ob nn (fun _ => .int .i64 0)) ∧ Hid (¬ K.all (colA sz k).L ob)) (fun i _ => nn - (intOf i).toNat)
      case atStart => exact ⟨0, _, Nat.zero_le _, rfl, rfl, H1, HR, HO⟩
      case round =>
        clear H1 HR HO
        obtain ⟨k, K, hk, rfl, hKc, H, HR, HO⟩ := hrel
        by_cases hlt : k < nn
        · have hltI : (k : Int) < (nn : Int) := by omega
          have HA := Lib.hid (H.out.makes (x := (k : Int)) (by rw [colA_len]; omega) (int_wfK (by omega) (by omega)) (by omega) (colA_new sz k) HZ.out)
          rw [hKc] at HA
          go_wp2_with (fail)
          refine HA.out.mono ?_
          rintro e2 w3 ⟨rfl, K2, h1, h2, h3, h4⟩
          have H2 := Lib.hid (show KAt w.heap.size w K2 (colA sz (k + 1)) w3 from h1)
          have HR2 := Lib.hid (HR.out.only h3 HO.out)
          have hobl := HR.out.lt
          have HO2 := Lib.hid (show ¬ K2.all (colA sz (k + 1)).L ob from fun h => (h4 _ h).elim HO.out (fun h => by omega))
          rw [hKc] at h2
          clear h1 HA H h3 h4 HR HO hobl
          go_wp2_with (fail)
          go_roundw
          case rel => exact ⟨k + 1, K2, hlt, by go_num, h2, H2, HR2, HO2⟩
          case measure => simp [intOf]; omega
        · obtain rfl : k = nn := by omega
          have HD := Lib.hid (show DpAt w.heap.size w k ob K (colA sz k) (fun _ => 0) wr from ⟨H.out, DrI.first HMN.out k, HR.out, HO.out, HLE.out⟩)
          clear H HR HO hmk HZ HZN HLE
          go_upto_block 2 with (fail)
          go_cut [15] (fun _ wc => ∃ (K : KC) (A : Ca) (o : Nat → Nat), K.c = K0.c ∧ Hid (DpAt w.heap.size w k ob K A o wc))
          case first =>
            -- [SCAN
            · as_aux_lemma =>
             go_wp2_with (fail)
             go_loopw [61] (fun i wr => ∃ (j : Nat) (K : KC) (A : Ca) (o : Nat → Nat), j ≤ tk ∧ i = .int .i64 j ∧ K.c = K0.c ∧ Hid (DpAt w.heap.size w k ob K A o wr)) (fun i _ => tk - (intOf i).toNat)
             case atStart => exact ⟨0, _, _, _, Nat.zero_le _, rfl, hKc, HD⟩
             case round =>
               clear HD hKc
               obtain ⟨j, K, A, o, hj, rfl, hKc, HD⟩ := hrel
               by_cases hlj : j < tk
               · have hljI : (j : Int) < (tk : Int) := by omega
                 have HT := Lib.hid (ktake_any HD.out.k.at_ (Nat.le_trans HD.out.d.len (by omega)))
                 rw [hKc] at HT
                 cases hp : pickL A.L with
                 | none =>
                   have hz : A.take = (0, 0, 7, A) := by unfold Ca.take; rw [hp]
                   rw [hz] at HT
                   clear hz hp
                   go_wp2_with (fail)
                   refine HT.out.mono ?_
                   rintro e3 w3 ⟨rfl, K3, T⟩
                   obtain ⟨a1, a2, a3⟩ := HD.out.turn T
                   have H3 := Lib.hid (show DpAt w.heap.size w k ob K3 A o w3 from ⟨a1, HD.out.d, a2, a3, HD.out.obB⟩)
                   have hc3 := T.c.trans hKc
                   clear T a1 a2 a3 HT HD
                   go_wp2_with (fail)
                   go_meet
                   exact ⟨K3, A, o, hc3, H3⟩
                 | some p =>
                   obtain ⟨f, hf, hfn, hD, kk, hk1, hk2, hk3, hk4, hk5⟩ := HD.out.d.take HD.out.k.at_.inv hp
                   have hz : A.take = ((f : Int), (kk : Int), 0, A.turned (f : Int) p.S.take.2.2) := by unfold Ca.take; rw [hp, ← hf, ← hk1]
                   rw [hz] at HT
                   rw [hf] at hD
                   have hfind : findL (A.turned (f : Int) p.S.take.2.2).L (f : Int) = some p.S.take.2.2 := by
                     show findL (setL A.L f p.S.take.2.2) f = _
                     rw [findL_set HD.out.k.at_.inv.rise, if_pos rfl, ← hf, findL_of HD.out.k.at_.inv.rise (pick_mem hp)]
                     rfl
                   have ho32 : o f ≤ 32 := by
                     obtain ⟨S, q1, q2, _⟩ := HD.out.d.sl f hfn
                     have := (HD.out.k.at_.inv.find q1).1.parts.2.2.2.1
                     omega
                   have HBK := Lib.hid (fun (h1 : CaI (A.turned (f : Int) p.S.take.2.2)) => hD.back h1 hfn hfind (by rw [hk3]; exact hk2) hk4 hk5)
                   have HDD := Lib.hid hD
                   have hfnI : (f : Int) < (k : Int) := by omega
                   generalize A.turned (f : Int) p.S.take.2.2 = A1 at *
                   have hkk : kk ≤ 32 := by
                     have := (HD.out.k.at_.inv.inv p (pick_mem hp)).parts.2.2.2.1
                     omega
                   clear hz hp hf hD hk1 hk2 hk3 hk4 hk5 hfind
                   go_wp2_with (fail)
                   refine HT.out.mono ?_
                   rintro e3 w3 ⟨rfl, K3, T⟩
                   obtain ⟨a1, a2, a3⟩ := HD.out.turn T
                   have HS3 := Lib.hid (DpAt.set (f := f) (m := o f + 1) a1 HDD.out a2 a3 HD.out.obB)
                   have hc3 := T.c.trans hKc
                   have cf : w3.cell? ⟨ob, f, none⟩ = some (.int .i64 (o f)) := a2.cell f hfn
                   have ff : w3.frozen? ⟨ob, f, none⟩ = false := a2.frozen f
                   have HW1 := Lib.hid (show wrap64 ((o f : Int) + 1) = (o f : Int) + 1 from IntWalk.wrap64_in _ ⟨by omega, by omega⟩)
                   rw [Int.natCast_add, show ((1 : Nat) : Int) = 1 from rfl] at HS3
                   have hofe : updC o f (o f + 1) f = o f + 1 := updC_same _ _ _
                   clear T a1 a2 a3 HT HD HDD
                   generalize updC o f (o f + 1) = o1 at *
                   cases hb : bit j with
                   | true =>
                     obtain ⟨m, hm1, hm2, hm3⟩ := HBK.out HS3.out.k.at_.inv
                     have HG := Lib.hid (kgive_any HS3.out.k.at_ (f : Int) (kk : Int) (int_wfK (by omega) (by omega)))
                     rw [hc3] at HG
                     unfold KPost1 at HG
                     rw [hm2] at HG
                     have HM3 := Lib.hid hm3
                     have hmo : m = o f := by rw [hofe] at hm1; exact (Nat.succ.inj hm1).symm
                     have hbj := HBIT.out j
                     rw [hb] at hbj
                     have hw1 := HW1.out
                     clear hm2 hm3 HBK hb HW1
                     go_wp2_with (fail)
                     clear hbj cf ff hw1
                     refine HG.out.mono ?_
                     rintro e4 w4 ⟨rfl, K4, T⟩
                     obtain ⟨a1, a2, a3⟩ := HS3.out.turn T
                     have HS4 := Lib.hid (DpAt.set (f := f) (m := m) a1 HM3.out a2 a3 HS3.out.obB)
                     have hc4 := T.c.trans hc3
                     have cf : w4.cell? ⟨ob, f, none⟩ = some (.int .i64 ((o f : Int) + 1)) := by
                       have h := a2.cell f hfn
                       rw [hofe, Int.natCast_add] at h
                       exact h
                     have ff : w4.frozen? ⟨ob, f, none⟩ = false := a2.frozen f
                     have hsb : (o f : Int) + 1 - 1 = (o f : Int) := by omega
                     have hw2 : wrap64 (o f : Int) = (o f : Int) := IntWalk.wrap64_in _ ⟨by omega, by omega⟩
                     have hw1 : wrap64 ((o f : Int) + 1 - 1) = (o f : Int) := by rw [hsb]; exact hw2
                     rw [hmo] at HS4
                     clear T a1 a2 a3 HG HM3 HS3 hm1 hofe hmo
                     go_wp2_with (fail)
                     clear hw1 hw2 cf ff
                     go_roundw
                     case rel => exact ⟨j + 1, K4, _, _, hlj, by go_num, hc4, HS4⟩
                     case measure => simp [intOf]; omega
                   | false =>
                     have hbj := HBIT.out j
                     rw [hb] at hbj
                     have hw1 := HW1.out
                     clear HBK hb HW1
                     go_wp2_with (fail)
                     clear hbj hw1 cf ff
                     go_roundw
                     case rel => exact ⟨j + 1, K3, A1, o1, hlj, by go_num, hc3, HS3⟩
                     case measure => simp [intOf]; omega
               · obtain rfl : j = tk := by omega
                 go_wp2_with (fail)
                 go_meet
                 exact ⟨K, A, o, hKc, HD⟩
            -- SCAN]
          case rest =>
            · as_aux_lemma =>
             obtain ⟨K, A, o, hKc, HD⟩ := hcut
             obtain ⟨f, hf1, hf2⟩ := u64_modC frame (k : Int) (by omega) (by omega)
             have hfk : f < k := by omega
             have hku : IntKind.u64.wrap (k : Int) = k := by rw [IntKind.wrap_u64]; omega
             have hk0 : ¬ (k : Int) = 0 := by omega
             have HDR := Lib.hid (kdrop_any HD.out.k.at_ (f : Int) (int_wfK (by omega) (by omega)))
             rw [hKc] at HDR
             have HDP := Lib.hid (fun (K' : KC) W (T : KTurn wc K A noB (fun x => (K.g x).b) K' (A.drop (f : Int)).2 W) => HD.out.dropped T hfk)
             have ho32 : o f ≤ 32 := by
               obtain ⟨S, q1, q2, _⟩ := HD.out.d.sl f hfk
               have := (HD.out.k.at_.inv.find q1).1.parts.2.2.2.1
               omega
             have HZ := Lib.hid (HD.out.d.drop hfk)
             unfold KPost1 at HDR
             cases hof : decide (o f = 0) with
             | true =>
               have h0 : o f = 0 := of_decide_eq_true hof
               have hq : (A.drop (f : Int)).1 = 0 := by rw [HZ.out, if_pos h0]
               rw [hq] at HDR
               have H0 := Lib.hid h0
               generalize (A.drop (f : Int)).2 = A2 at *
               clear hof hq HD HZ h0
               go_wp2_with (fail)
               rw [hf2]
               clear hf2 hku hk0
               refine HDR.out.mono ?_
               rintro e3 w3 ⟨rfl, K3, T⟩
               have hc3 := T.c.trans hKc
               have HL := Lib.hid (HDP.out K3 w3 T)
               have cf := HL.out.row.cell f hfk
               rw [H0.out] at cf
               clear T HDR HDP
               go_wp2_with (fail)
               clear cf
               go_loopw [128] (fun i wr => ∃ j : Nat, j ≤ k ∧ i = .int .i64 j ∧ Hid (DlAt w.heap.size w k ob o f K3 A2 wr)) (fun i _ => k - (intOf i).toNat)
               case atStart => exact ⟨0, Nat.zero_le _, rfl, HL⟩
               case round =>
                 clear HL
                 rename World => w4
                 obtain ⟨j, hj, rfl, HL⟩ := hrel
                 by_cases hlt : j < k
                 · have hltI : (j : Int) < (k : Int) := by omega
                   by_cases hjf : j = f
                   · subst hjf
                     have HS := kslab_any HL.out.k.at_ (j : Int) (int_wfK (by omega) (by omega))
                     unfold KSlab at HS
                     rw [hc3, HL.out.gone H0.out] at HS
                     unfold ptrF at HS
                     have HSB := Lib.hid HS
                     clear HS
                     go_wp2_with (fail)
                     refine HSB.out.mono ?_
                     rintro e4 w5 ⟨rfl, hww⟩
                     subst hww
                     clear HSB
                     go_wp2_with (fail)
                     go_roundw
                     case rel => exact ⟨j + 1, hlt, by go_num, HL⟩
                     case measure => simp [intOf]; omega
                   · have hjfb : ((j : Int) == (f : Int)) = false := by simp; omega
                     have hjfI : ¬ (j : Int) = (f : Int) := by omega
                     obtain ⟨S, q1, q2⟩ := HL.out.left j hlt (fun h => hjf h.1)
                     have hI := HL.out.k.at_.inv.find q1
                     have hn32 := hI.1.parts.2.2.2.1
                     have HSL := Lib.hid (HL.out.k.at_.fam.at_ _ (findL_mem q1))
                     have cj := HL.out.row.cell j hlt
                     have hcl := World.block_lt_of_cell? _ _ cj
                     have HC := Lib.hid (show ∀ V, Below w4.heap.size w4 V → (loadVar 3 ⟨ob, j, none⟩).run Try.prog V = .ok (.int .i64 (o j)) V from fun V hV => run_loadVar_cell (fun _ => by kernel_rfl) ((hV.cell hcl).trans cj))
                     have HS := kslab_any HL.out.k.at_ (j : Int) (int_wfK (by omega) (by omega))
                     unfold KSlab at HS
                     rw [hc3, q1] at HS
                     unfold ptrF at HS
                     have HSB := Lib.hid HS
                     clear HS
                     have HFR := Lib.hid (fun V (hV : SlAt V (K3.g (j : Int)) S) => chain_ok.free hV)
                     have HCNT := Lib.hid (fun V (hV : SlAt V (K3.g (j : Int)) S) => chain_ok.count hV)
                     have hw : IntKind.i64.wrap ((S.n : Int) - (o j : Int)) = (S.ch.length : Int) := by rw [IntKind.wrap_i64]; omega
                     clear hI hn32 q1 q2 cj hcl
                     generalize S.n = n2 at *
                     generalize S.ch.length = n1 at *
                     generalize o j = oj at *
                     generalize (K3.g (j : Int)).s = cs at *
                     go_wp2_with (fail)
                     refine HSB.out.mono ?_
                     rintro e4 w5 ⟨rfl, hww⟩
                     subst hww
                     clear HSB
                     go_wp2_with (fail)
                     refine wp_region_lex1 (fun V => Below w4.heap.size w4 V) [(0, false), (1, false), (2, false), (3, false), (5, false), (7, false), (8, false), (9, false), (10, false), (4, true), (6, true), (11, false), (12, false), (13, false)]
                       (by kernel_rfl) (by kernel_rfl) rfl (by kernel_rfl) (Below.refl _ w4).drew ?_
                     intro V0 hV0 hK0
                     clear hK0
                     have HB0 := Lib.hid (show Below w4.heap.size w4 V0 by rw [hV0]; exact (Below.refl _ w4).drew)
                     clear hV0
                     refine lexH_yieldE rfl rfl ?_
                     apply Exists.intro
                     refine ⟨fun W hW => ?_, ?_⟩
                     focus (go_simp; exact rfl)
                     simp only [List.getElem_toArray, List.getElem_cons_zero, Act.put, List.setIfInBounds_toArray, List.set_cons_zero, List.set_cons_succ]
                     refine lexH_yieldE rfl rfl ?_
                     apply Exists.intro
                     refine ⟨fun W hW => ?_, ?_⟩
                     focus (go_simp; exact rfl)
                     simp only [List.getElem_toArray, List.getElem_cons_succ, List.getElem_cons_zero, Act.put, List.setIfInBounds_toArray, List.set_cons_zero, List.set_cons_succ]
                     refine lexH_yieldE rfl rfl ?_
                     apply Exists.intro
                     refine ⟨fun W hW => ?_, ?_⟩
                     focus (go_simp; exact rfl)
                     simp only [List.getElem_toArray, List.getElem_cons_succ, List.getElem_cons_zero, Act.put, List.setIfInBounds_toArray, List.set_cons_zero, List.set_cons_succ]
                     refine lexH_yieldE rfl rfl ?_
                     apply Exists.intro
                     refine ⟨fun W hW => ?_, ?_⟩
                     focus (go_simp; exact rfl)
                     simp only [List.getElem_toArray, List.getElem_cons_succ, List.getElem_cons_zero, Act.put, List.setIfInBounds_toArray, List.set_cons_zero, List.set_cons_succ]
                     refine lexH_yieldE rfl rfl ?_
                     apply Exists.intro
                     refine ⟨fun W hW => ?_, ?_⟩
                     focus (go_simp; exact rfl)
                     simp only [List.getElem_toArray, List.getElem_cons_succ, List.getElem_cons_zero, Act.put, List.setIfInBounds_toArray, List.set_cons_zero, List.set_cons_succ]
                     refine lexH_yieldE rfl rfl ?_
                     apply Exists.intro
                     refine ⟨fun W hW => ?_, ?_⟩
                     focus (go_simp; exact rfl)
                     simp only [List.getElem_toArray, List.getElem_cons_succ, List.getElem_cons_zero, Act.put, List.setIfInBounds_toArray, List.set_cons_zero, List.set_cons_succ]
                     refine lexH_yieldE rfl rfl ?_
                     apply Exists.intro
                     refine ⟨fun W hW => ?_, ?_⟩
                     focus (go_simp; exact rfl)
                     simp only [List.getElem_toArray, List.getElem_cons_succ, List.getElem_cons_zero, Act.put, List.setIfInBounds_toArray, List.set_cons_zero, List.set_cons_succ]
                     refine lexH_yieldE rfl rfl ?_
                     apply Exists.intro
                     refine ⟨fun W hW => ?_, ?_⟩
                     focus (go_simp; exact rfl)
                     simp only [List.getElem_toArray, List.getElem_cons_succ, List.getElem_cons_zero, Act.put, List.setIfInBounds_toArray, List.set_cons_zero, List.set_cons_succ]
                     refine lexH_load rfl rfl _ _ rfl rfl HC.out ?_
                     simp only [List.getElem_toArray, List.getElem_cons_succ, List.getElem_cons_zero, Act.put, List.setIfInBounds_toArray, List.set_cons_zero, List.set_cons_succ]
                     refine lexH_call 34 #[.pointer (some ⟨cs, 0, none⟩)] rfl rfl ?_ ?_
                     focus (go_simp; done)
                     have HSV := Lib.hid (chain_ok.later HSL.out HB0.out)
                     refine (HFR.out V0 HSV.out).mono ?_
                     rintro e4 w5 ⟨rfl, hb⟩
                     have HB4 := Lib.hid (HB0.out.trans (hb.mono HB0.out.size))
                     have HSV4 := Lib.hid (chain_ok.later HSV.out hb)
                     refine ⟨_, rfl, HB4.out, ?_⟩
                     clear hb HFR HSV
                     simp only [List.getElem_toArray, List.getElem_cons_succ, List.getElem_cons_zero, Act.put, List.setIfInBounds_toArray, List.set_cons_zero, List.set_cons_succ]
                     refine lexH_call 30 #[.pointer (some ⟨cs, 0, none⟩)] rfl rfl ?_ ?_
                     focus (go_simp; done)
                     refine (HCNT.out w5 HSV4.out).mono ?_
                     rintro e5 w6 ⟨rfl, hb⟩
                     have HB5 := Lib.hid (HB4.out.trans (hb.mono HB4.out.size))
                     refine ⟨_, rfl, HB5.out, ?_⟩
                     have H5 := Lib.hid (HL.out.later HB5.out)
                     clear hb HCNT HSV4 HSL HB4 HB0
                     simp only [List.getElem_toArray, List.getElem_cons_succ, List.getElem_cons_zero, Act.put, List.setIfInBounds_toArray, List.set_cons_zero, List.set_cons_succ]
                     refine lexH_yieldE rfl rfl ?_
                     apply Exists.intro
                     refine ⟨fun W hW => ?_, ?_⟩
                     focus (go_simp; exact rfl)
                     simp only [List.getElem_toArray, List.getElem_cons_succ, List.getElem_cons_zero, Act.put, List.setIfInBounds_toArray, List.set_cons_zero, List.set_cons_succ]
                     refine lexH_yieldE rfl rfl ?_
                     apply Exists.intro
                     refine ⟨fun W hW => ?_, ?_⟩
                     focus (go_simp; exact rfl)
                     simp only [List.getElem_toArray, List.getElem_cons_succ, List.getElem_cons_zero, Act.put, List.setIfInBounds_toArray, List.set_cons_zero, List.set_cons_succ]
                     refine lexH_yieldE rfl rfl ?_
                     apply Exists.intro
                     refine ⟨fun W hW => ?_, ?_⟩
                     focus (go_simp; exact rfl)
                     simp only [List.getElem_toArray, List.getElem_cons_succ, List.getElem_cons_zero, Act.put, List.setIfInBounds_toArray, List.set_cons_zero, List.set_cons_succ]
                     refine lexH_nil ?_
                     clear hw HL
                     go_wp2_with (fail)
                     go_roundw
                     case rel => exact ⟨j + 1, hlt, by go_num, H5⟩
                     case measure => simp [intOf]; omega
                 · obtain rfl : j = k := by omega
                   go_wp2_with (fail)
                   refine (kknown_any w4).mono ?_
                   rintro e5 w5 ⟨rfl, hb⟩
                   have HB2 := Lib.hid (HL.out.k.bel.trans (hb.mono HL.out.k.le))
                   clear hb
                   go_wp2_with (fail)
                   go_ret
                   exact ⟨rfl, HB2.out⟩
             | false =>
               have h0 : ¬ o f = 0 := of_decide_eq_false hof
               have hq : (A.drop (f : Int)).1 = 80 := by rw [HZ.out, if_neg h0]
               rw [hq] at HDR
               have H0 := Lib.hid h0
               have hofb : ((o f : Int) == 0) = false := by simp; omega
               have hofI : ¬ (o f : Int) = 0 := by omega
               generalize (A.drop (f : Int)).2 = A2 at *
               clear hof hq HD HZ h0
               go_wp2_with (fail)
               rw [hf2]
               clear hf2 hku hk0
               refine HDR.out.mono ?_
               rintro e3 w3 ⟨rfl, K3, T⟩
               have hc3 := T.c.trans hKc
               have HL := Lib.hid (HDP.out K3 w3 T)
               have cf := HL.out.row.cell f hfk
               clear T HDR HDP
               go_wp2_with (fail)
               clear cf
               go_loopw [128] (fun i wr => ∃ j : Nat, j ≤ k ∧ i = .int .i64 j ∧ Hid (DlAt w.heap.size w k ob o f K3 A2 wr)) (fun i _ => k - (intOf i).toNat)
               case atStart => exact ⟨0, Nat.zero_le _, rfl, HL⟩
               case round =>
                 clear HL
                 rename World => w4
                 obtain ⟨j, hj, rfl, HL⟩ := hrel
                 by_cases hlt : j < k
                 · have hltI : (j : Int) < (k : Int) := by omega
                   by_cases hjf : j = f
                   · subst hjf
                     have hne0 := H0.out
                     obtain ⟨S, q1, q2⟩ := HL.out.left j hlt (fun h => H0.out h.2)
                     have hI := HL.out.k.at_.inv.find q1
                     have hn32 := hI.1.parts.2.2.2.1
                     have HSL := Lib.hid (HL.out.k.at_.fam.at_ _ (findL_mem q1))
                     have cj := HL.out.row.cell j hlt
                     have hcl := World.block_lt_of_cell? _ _ cj
                     have HC := Lib.hid (show ∀ V, Below w4.heap.size w4 V → (loadVar 3 ⟨ob, j, none⟩).run Try.prog V = .ok (.int .i64 (o j)) V from fun V hV => run_loadVar_cell (fun _ => by kernel_rfl) ((hV.cell hcl).trans cj))
                     have HS := kslab_any HL.out.k.at_ (j : Int) (int_wfK (by omega) (by omega))
                     unfold KSlab at HS
                     rw [hc3, q1] at HS
                     unfold ptrF at HS
                     have HSB := Lib.hid HS
                     clear HS
                     have HFR := Lib.hid (fun V (hV : SlAt V (K3.g (j : Int)) S) => chain_ok.free hV)
                     have HCNT := Lib.hid (fun V (hV : SlAt V (K3.g (j : Int)) S) => chain_ok.count hV)
                     have hw : IntKind.i64.wrap ((S.n : Int) - (o j : Int)) = (S.ch.length : Int) := by rw [IntKind.wrap_i64]; omega
                     clear hI hn32 q1 q2 cj hcl
                     generalize S.n = n2 at *
                     generalize S.ch.length = n1 at *
                     generalize o j = oj at *
                     generalize (K3.g (j : Int)).s = cs at *
                     clear hne0
                     go_wp2_with (fail)
                     refine HSB.out.mono ?_
                     rintro e4 w5 ⟨rfl, hww⟩
                     subst hww
                     clear HSB
                     go_wp2_with (fail)
                     refine wp_region_lex1 (fun V => Below w4.heap.size w4 V) [(0, false), (1, false), (2, false), (3, false), (5, false), (7, false), (8, false), (9, false), (10, false), (4, true), (6, true), (11, false), (12, false), (13, false)]
                       (by kernel_rfl) (by kernel_rfl) rfl (by kernel_rfl) (Below.refl _ w4).drew ?_
                     intro V0 hV0 hK0
                     clear hK0
                     have HB0 := Lib.hid (show Below w4.heap.size w4 V0 by rw [hV0]; exact (Below.refl _ w4).drew)
                     clear hV0
                     refine lexH_yieldE rfl rfl ?_
                     apply Exists.intro
                     refine ⟨fun W hW => ?_, ?_⟩
                     focus (go_simp; exact rfl)
                     simp only [List.getElem_toArray, List.getElem_cons_zero, Act.put, List.setIfInBounds_toArray, List.set_cons_zero, List.set_cons_succ]
                     refine lexH_yieldE rfl rfl ?_
                     apply Exists.intro
                     refine ⟨fun W hW => ?_, ?_⟩
                     focus (go_simp; exact rfl)
                     simp only [List.getElem_toArray, List.getElem_cons_succ, List.getElem_cons_zero, Act.put, List.setIfInBounds_toArray, List.set_cons_zero, List.set_cons_succ]
                     refine lexH_yieldE rfl rfl ?_
                     apply Exists.intro
                     refine ⟨fun W hW => ?_, ?_⟩
                     focus (go_simp; exact rfl)
                     simp only [List.getElem_toArray, List.getElem_cons_succ, List.getElem_cons_zero, Act.put, List.setIfInBounds_toArray, List.set_cons_zero, List.set_cons_succ]
                     refine lexH_yieldE rfl rfl ?_
                     apply Exists.intro
                     refine ⟨fun W hW => ?_, ?_⟩
                     focus (go_simp; exact rfl)
                     simp only [List.getElem_toArray, List.getElem_cons_succ, List.getElem_cons_zero, Act.put, List.setIfInBounds_toArray, List.set_cons_zero, List.set_cons_succ]
                     refine lexH_yieldE rfl rfl ?_
                     apply Exists.intro
                     refine ⟨fun W hW => ?_, ?_⟩
                     focus (go_simp; exact rfl)
                     simp only [List.getElem_toArray, List.getElem_cons_succ, List.getElem_cons_zero, Act.put, List.setIfInBounds_toArray, List.set_cons_zero, List.set_cons_succ]
                     refine lexH_yieldE rfl rfl ?_
                     apply Exists.intro
                     refine ⟨fun W hW => ?_, ?_⟩
                     focus (go_simp; exact rfl)
                     simp only [List.getElem_toArray, List.getElem_cons_succ, List.getElem_cons_zero, Act.put, List.setIfInBounds_toArray, List.set_cons_zero, List.set_cons_succ]
                     refine lexH_yieldE rfl rfl ?_
                     apply Exists.intro
                     refine ⟨fun W hW => ?_, ?_⟩
                     focus (go_simp; exact rfl)
                     simp only [List.getElem_toArray, List.getElem_cons_succ, List.getElem_cons_zero, Act.put, List.setIfInBounds_toArray, List.set_cons_zero, List.set_cons_succ]
                     refine lexH_yieldE rfl rfl ?_
                     apply Exists.intro
                     refine ⟨fun W hW => ?_, ?_⟩
                     focus (go_simp; exact rfl)
                     simp only [List.getElem_toArray, List.getElem_cons_succ, List.getElem_cons_zero, Act.put, List.setIfInBounds_toArray, List.set_cons_zero, List.set_cons_succ]
                     refine lexH_load rfl rfl _ _ rfl rfl HC.out ?_
                     simp only [List.getElem_toArray, List.getElem_cons_succ, List.getElem_cons_zero, Act.put, List.setIfInBounds_toArray, List.set_cons_zero, List.set_cons_succ]
                     refine lexH_call 34 #[.pointer (some ⟨cs, 0, none⟩)] rfl rfl ?_ ?_
                     focus (go_simp; done)
                     have HSV := Lib.hid (chain_ok.later HSL.out HB0.out)
                     refine (HFR.out V0 HSV.out).mono ?_
                     rintro e4 w5 ⟨rfl, hb⟩
                     have HB4 := Lib.hid (HB0.out.trans (hb.mono HB0.out.size))
                     have HSV4 := Lib.hid (chain_ok.later HSV.out hb)
                     refine ⟨_, rfl, HB4.out, ?_⟩
                     clear hb HFR HSV
                     simp only [List.getElem_toArray, List.getElem_cons_succ, List.getElem_cons_zero, Act.put, List.setIfInBounds_toArray, List.set_cons_zero, List.set_cons_succ]
                     refine lexH_call 30 #[.pointer (some ⟨cs, 0, none⟩)] rfl rfl ?_ ?_
                     focus (go_simp; done)
                     refine (HCNT.out w5 HSV4.out).mono ?_
                     rintro e5 w6 ⟨rfl, hb⟩
                     have HB5 := Lib.hid (HB4.out.trans (hb.mono HB4.out.size))
                     refine ⟨_, rfl, HB5.out, ?_⟩
                     have H5 := Lib.hid (HL.out.later HB5.out)
                     clear hb HCNT HSV4 HSL HB4 HB0
                     simp only [List.getElem_toArray, List.getElem_cons_succ, List.getElem_cons_zero, Act.put, List.setIfInBounds_toArray, List.set_cons_zero, List.set_cons_succ]
                     refine lexH_yieldE rfl rfl ?_
                     apply Exists.intro
                     refine ⟨fun W hW => ?_, ?_⟩
                     focus (go_simp; exact rfl)
                     simp only [List.getElem_toArray, List.getElem_cons_succ, List.getElem_cons_zero, Act.put, List.setIfInBounds_toArray, List.set_cons_zero, List.set_cons_succ]
                     refine lexH_yieldE rfl rfl ?_
                     apply Exists.intro
                     refine ⟨fun W hW => ?_, ?_⟩
                     focus (go_simp; exact rfl)
                     simp only [List.getElem_toArray, List.getElem_cons_succ, List.getElem_cons_zero, Act.put, List.setIfInBounds_toArray, List.set_cons_zero, List.set_cons_succ]
                     refine lexH_yieldE rfl rfl ?_
                     apply Exists.intro
                     refine ⟨fun W hW => ?_, ?_⟩
                     focus (go_simp; exact rfl)
                     simp only [List.getElem_toArray, List.getElem_cons_succ, List.getElem_cons_zero, Act.put, List.setIfInBounds_toArray, List.set_cons_zero, List.set_cons_succ]
                     refine lexH_nil ?_
                     clear hw HL
                     go_wp2_with (fail)
                     go_roundw
                     case rel => exact ⟨j + 1, hlt, by go_num, H5⟩
                     case measure => simp [intOf]; omega
                   · have hjfb : ((j : Int) == (f : Int)) = false := by simp; omega
                     have hjfI : ¬ (j : Int) = (f : Int) := by omega
                     obtain ⟨S, q1, q2⟩ := HL.out.left j hlt (fun h => hjf h.1)
                     have hI := HL.out.k.at_.inv.find q1
                     have hn32 := hI.1.parts.2.2.2.1
                     have HSL := Lib.hid (HL.out.k.at_.fam.at_ _ (findL_mem q1))
                     have cj := HL.out.row.cell j hlt
                     have hcl := World.block_lt_of_cell? _ _ cj
                     have HC := Lib.hid (show ∀ V, Below w4.heap.size w4 V → (loadVar 3 ⟨ob, j, none⟩).run Try.prog V = .ok (.int .i64 (o j)) V from fun V hV => run_loadVar_cell (fun _ => by kernel_rfl) ((hV.cell hcl).trans cj))
                     have HS := kslab_any HL.out.k.at_ (j : Int) (int_wfK (by omega) (by omega))
                     unfold KSlab at HS
                     rw [hc3, q1] at HS
                     unfold ptrF at HS
                     have HSB := Lib.hid HS
                     clear HS
                     have HFR := Lib.hid (fun V (hV : SlAt V (K3.g (j : Int)) S) => chain_ok.free hV)
                     have HCNT := Lib.hid (fun V (hV : SlAt V (K3.g (j : Int)) S) => chain_ok.count hV)
                     have hw : IntKind.i64.wrap ((S.n : Int) - (o j : Int)) = (S.ch.length : Int) := by rw [IntKind.wrap_i64]; omega
                     clear hI hn32 q1 q2 cj hcl
                     generalize S.n = n2 at *
                     generalize S.ch.length = n1 at *
                     generalize o j = oj at *
                     generalize (K3.g (j : Int)).s = cs at *
                     go_wp2_with (fail)
                     refine HSB.out.mono ?_
                     rintro e4 w5 ⟨rfl, hww⟩
                     subst hww
                     clear HSB
                     go_wp2_with (fail)
                     refine wp_region_lex1 (fun V => Below w4.heap.size w4 V) [(0, false), (1, false), (2, false), (3, false), (5, false), (7, false), (8, false), (9, false), (10, false), (4, true), (6, true), (11, false), (12, false), (13, false)]
                       (by kernel_rfl) (by kernel_rfl) rfl (by kernel_rfl) (Below.refl _ w4).drew ?_
                     intro V0 hV0 hK0
                     clear hK0
                     have HB0 := Lib.hid (show Below w4.heap.size w4 V0 by rw [hV0]; exact (Below.refl _ w4).drew)
                     clear hV0
                     refine lexH_yieldE rfl rfl ?_
                     apply Exists.intro
                     refine ⟨fun W hW => ?_, ?_⟩
                     focus (go_simp; exact rfl)
                     simp only [List.getElem_toArray, List.getElem_cons_zero, Act.put, List.setIfInBounds_toArray, List.set_cons_zero, List.set_cons_succ]
                     refine lexH_yieldE rfl rfl ?_
                     apply Exists.intro
                     refine ⟨fun W hW => ?_, ?_⟩
                     focus (go_simp; exact rfl)
                     simp only [List.getElem_toArray, List.getElem_cons_succ, List.getElem_cons_zero, Act.put, List.setIfInBounds_toArray, List.set_cons_zero, List.set_cons_succ]
                     refine lexH_yieldE rfl rfl ?_
                     apply Exists.intro
                     refine ⟨fun W hW => ?_, ?_⟩
                     focus (go_simp; exact rfl)
                     simp only [List.getElem_toArray, List.getElem_cons_succ, List.getElem_cons_zero, Act.put, List.setIfInBounds_toArray, List.set_cons_zero, List.set_cons_succ]
                     refine lexH_yieldE rfl rfl ?_
                     apply Exists.intro
                     refine ⟨fun W hW => ?_, ?_⟩
                     focus (go_simp; exact rfl)
                     simp only [List.getElem_toArray, List.getElem_cons_succ, List.getElem_cons_zero, Act.put, List.setIfInBounds_toArray, List.set_cons_zero, List.set_cons_succ]
                     refine lexH_yieldE rfl rfl ?_
                     apply Exists.intro
                     refine ⟨fun W hW => ?_, ?_⟩
                     focus (go_simp; exact rfl)
                     simp only [List.getElem_toArray, List.getElem_cons_succ, List.getElem_cons_zero, Act.put, List.setIfInBounds_toArray, List.set_cons_zero, List.set_cons_succ]
                     refine lexH_yieldE rfl rfl ?_
                     apply Exists.intro
                     refine ⟨fun W hW => ?_, ?_⟩
                     focus (go_simp; exact rfl)
                     simp only [List.getElem_toArray, List.getElem_cons_succ, List.getElem_cons_zero, Act.put, List.setIfInBounds_toArray, List.set_cons_zero, List.set_cons_succ]
                     refine lexH_yieldE rfl rfl ?_
                     apply Exists.intro
                     refine ⟨fun W hW => ?_, ?_⟩
                     focus (go_simp; exact rfl)
                     simp only [List.getElem_toArray, List.getElem_cons_succ, List.getElem_cons_zero, Act.put, List.setIfInBounds_toArray, List.set_cons_zero, List.set_cons_succ]
                     refine lexH_yieldE rfl rfl ?_
                     apply Exists.intro
                     refine ⟨fun W hW => ?_, ?_⟩
                     focus (go_simp; exact rfl)
                     simp only [List.getElem_toArray, List.getElem_cons_succ, List.getElem_cons_zero, Act.put, List.setIfInBounds_toArray, List.set_cons_zero, List.set_cons_succ]
                     refine lexH_load rfl rfl _ _ rfl rfl HC.out ?_
                     simp only [List.getElem_toArray, List.getElem_cons_succ, List.getElem_cons_zero, Act.put, List.setIfInBounds_toArray, List.set_cons_zero, List.set_cons_succ]
                     refine lexH_call 34 #[.pointer (some ⟨cs, 0, none⟩)] rfl rfl ?_ ?_
                     focus (go_simp; done)
                     have HSV := Lib.hid (chain_ok.later HSL.out HB0.out)
                     refine (HFR.out V0 HSV.out).mono ?_
                     rintro e4 w5 ⟨rfl, hb⟩
                     have HB4 := Lib.hid (HB0.out.trans (hb.mono HB0.out.size))
                     have HSV4 := Lib.hid (chain_ok.later HSV.out hb)
                     refine ⟨_, rfl, HB4.out, ?_⟩
                     clear hb HFR HSV
                     simp only [List.getElem_toArray, List.getElem_cons_succ, List.getElem_cons_zero, Act.put, List.setIfInBounds_toArray, List.set_cons_zero, List.set_cons_succ]
                     refine lexH_call 30 #[.pointer (some ⟨cs, 0, none⟩)] rfl rfl ?_ ?_
                     focus (go_simp; done)
                     refine (HCNT.out w5 HSV4.out).mono ?_
                     rintro e5 w6 ⟨rfl, hb⟩
                     have HB5 := Lib.hid (HB4.out.trans (hb.mono HB4.out.size))
                     refine ⟨_, rfl, HB5.out, ?_⟩
                     have H5 := Lib.hid (HL.out.later HB5.out)
                     clear hb HCNT HSV4 HSL HB4 HB0
                     simp only [List.getElem_toArray, List.getElem_cons_succ, List.getElem_cons_zero, Act.put, List.setIfInBounds_toArray, List.set_cons_zero, List.set_cons_succ]
                     refine lexH_yieldE rfl rfl ?_
                     apply Exists.intro
                     refine ⟨fun W hW => ?_, ?_⟩
                     focus (go_simp; exact rfl)
                     simp only [List.getElem_toArray, List.getElem_cons_succ, List.getElem_cons_zero, Act.put, List.setIfInBounds_toArray, List.set_cons_zero, List.set_cons_succ]
                     refine lexH_yieldE rfl rfl ?_
                     apply Exists.intro
                     refine ⟨fun W hW => ?_, ?_⟩
                     focus (go_simp; exact rfl)
                     simp only [List.getElem_toArray, List.getElem_cons_succ, List.getElem_cons_zero, Act.put, List.setIfInBounds_toArray, List.set_cons_zero, List.set_cons_succ]
                     refine lexH_yieldE rfl rfl ?_
                     apply Exists.intro
                     refine ⟨fun W hW => ?_, ?_⟩
                     focus (go_simp; exact rfl)
                     simp only [List.getElem_toArray, List.getElem_cons_succ, List.getElem_cons_zero, Act.put, List.setIfInBounds_toArray, List.set_cons_zero, List.set_cons_succ]
                     refine lexH_nil ?_
                     clear hw HL
                     go_wp2_with (fail)
                     go_roundw
                     case rel => exact ⟨j + 1, hlt, by go_num, H5⟩
                     case measure => simp [intOf]; omega
                 · obtain rfl : j = k := by omega
                   go_wp2_with (fail)
                   refine (kknown_any w4).mono ?_
                   rintro e5 w5 ⟨rfl, hb⟩
                   have HB2 := Lib.hid (HL.out.k.bel.trans (hb.mono HL.out.k.le))
                   clear hb
                   go_wp2_with (fail)
                   go_ret
                   exact ⟨rfl, HB2.out⟩
    · rcases (show n < 1 ∨ (¬ n < 1 ∧ 8 < n) ∨ (¬ n < 1 ∧ ¬ 8 < n ∧ taken < 0) ∨ (¬ n < 1 ∧ ¬ 8 < n ∧ ¬ taken < 0 ∧ 60 < taken) by omega) with h1 | ⟨h1, h2⟩ | ⟨h1, h2, h3⟩ | ⟨h1, h2, h3, h4⟩
      all_goals
        clear hok
        go_enter Try.func8, Try.ntmps8
        go_wp2_with (fail)
        refine HN.out.mono ?_
        rintro e w1 ⟨K, rfl, _, hb, _⟩
        have HB := Lib.hid hb
        clear hb HN
        go_wp2_with (fail)
        refine (kknown_any w1).mono ?_
        rintro e w3 ⟨rfl, hb⟩
        have HB2 := Lib.hid (HB.out.trans (hb.mono HB.out.size))
        clear hb HB
        go_wp2_with (fail)
        go_ret
        exact ⟨rfl, HB2.out⟩
end Go.Proofs.Ytlimbcpghfddkaa
