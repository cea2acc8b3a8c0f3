/-
  The walk of CachePartial.
-/
import Derived.Test.YtlimbcpghfddkaaCaKp
import Derived.Test.YtlimbcpghfddkaaCaDr
import Derived.Test.YtlimbcpghfddkaaCaOps
import Derived.Deep.DeepCutAuto
import Derived.Deep.CutBlock
namespace Go.Proofs.Ytlimbcpghfddkaa
open Go.RowKit Go Go.Maps

/-- The first slab that is so: its frame, else -1. -/
def oneF (f : Pl → Bool) (l : List Pl) : Int := match l.find? f with
  | some p => p.fr
  | none => -1
theorem oneF_cons (f : Pl → Bool) (p : Pl) (l : List Pl) : oneF f (p :: l) = if f p = true then p.fr else oneF f l := by
  unfold oneF
  rw [List.find?_cons]
  cases f p <;> rfl
theorem oneF_sign (f : Pl → Bool) {l : List Pl} (h : ∀ p ∈ l, 0 ≤ p.fr) : 0 ≤ oneF f l ∨ oneF f l = -1 := by
  unfold oneF
  cases e : l.find? f with
  | none => exact .inr rfl
  | some p => exact .inl (h p (List.mem_of_find?_eq_some e))
theorem wrap_52 {h : Nat} (hh : (h : Int) < 12) : IntKind.i64.wrap (IntKind.i64.wrap (5 * (h : Int)) + 2) = 5 * (h : Int) + 2 := by
  rw [IntKind.wrap_i64, IntKind.wrap_i64]
  omega
theorem wrap_h {h : Nat} (hh : (h : Int) < 12) : IntKind.i64.wrap (h : Int) = (h : Int) := by
  rw [IntKind.wrap_i64]
  omega
theorem prt_emp {p : Pl} (h : p.emp = true) : p.prt = false := by
  unfold Pl.emp at h
  unfold Pl.prt
  rw [h]
  simp
/-- A cache of a few slabs. -/
structure PaAt (B : Nat) (w : World) (K : KC) (A : Ca) (W : World) : Prop where
  k : KAt B w K A W
  len : A.L.length ≤ 12
theorem PaAt.later {B : Nat} {w W W' : World} {K : KC} {A : Ca} (H : PaAt B w K A W) (h : Below W.heap.size W W') : PaAt B w K A W' := ⟨H.k.later h, H.len⟩
theorem PaAt.give {B : Nat} {w W : World} {K : KC} {A : Ca} (H : PaAt B w K A W) (x i : Int) (hx : (Lit.int .i64 x).wf = true) : Calls Try.prog 17 #[.pointer (some ⟨K.c, 0, none⟩), .int .i64 x, .int .i64 i] W fun e W' => ∃ r A', e = .returned (.int .i64 r) ∧ PaAt B w K A' W' := by
  refine (kgive_any H.k.at_ x i hx).mono ?_
  rintro e W' ⟨rfl, K', T⟩
  have e := T.keep rfl
  subst e
  exact ⟨_, _, rfl, H.k.same T, by rw [give_len]; exact H.len⟩
/-- What Take tells: of those that may be taken from, the one that is wanted. -/
def PaTook (B : Nat) (w : World) (K : KC) (A : Ca) (e : Ending) (W' : World) : Prop :=
  ∃ (x k f : Int) (A' : Ca), e = .returned (.tuple #[.int .i64 x, .int .i64 k, .int .i64 f]) ∧ PaAt B w K A' W' ∧
    ((0 ≤ oneF Pl.prt A.L ∧ f = 0 ∧ x = oneF Pl.prt A.L) ∨ (oneF Pl.prt A.L = -1 ∧ 0 ≤ oneF Pl.emp A.L ∧ f = 0 ∧ x = oneF Pl.emp A.L) ∨ (oneF Pl.prt A.L = -1 ∧ oneF Pl.emp A.L = -1 ∧ f = 7))
theorem PaAt.take {B : Nat} {w W : World} {K : KC} {A : Ca} (H : PaAt B w K A W) : Calls Try.prog 15 #[.pointer (some ⟨K.c, 0, none⟩)] W (PaTook B w K A) := by
  refine (ktake_any H.k.at_ (Nat.le_trans H.len (by decide))).mono ?_
  rintro e W' ⟨rfl, K', T⟩
  have e := T.keep rfl
  subst e
  refine ⟨_, _, _, _, rfl, ⟨H.k.same T, by rw [take_len]; exact H.len⟩, ?_⟩
  have hz : A.take = match pickL A.L with
    | none => (0, 0, 7, A)
    | some p => (p.fr, p.S.take.1, 0, A.turned p.fr p.S.take.2.2) := rfl
  have hp : pickL A.L = (A.L.find? Pl.prt).or (A.L.find? Pl.emp) := rfl
  rw [hz, hp]
  unfold oneF
  cases e1 : A.L.find? Pl.prt with
  | some p => exact .inl ⟨H.k.at_.inv.nn p (List.mem_of_find?_eq_some e1), rfl, rfl⟩
  | none =>
    cases e2 : A.L.find? Pl.emp with
    | some p => exact .inr (.inl ⟨rfl, H.k.at_.inv.nn p (List.mem_of_find?_eq_some e2), rfl, rfl⟩)
    | none => exact .inr (.inr ⟨rfl, rfl, rfl⟩)
set_option maxRecDepth 100000 in
set_option maxHeartbeats 16000000 in
theorem lawPartial_any (size n : Int) (a1 : Option Addr) (l1 c1 : Nat) (O : Nat → OpA) (w : World) (hZ : OpsA w a1 l1 O) : Calls Try.prog 7 #[.int .i64 size, .int .i64 n, .slice a1 l1 c1] w fun e w' => e = .returned (.bool true) ∧ Below w.heap.size w w' := by
  cases hm : mayC size 0 with
  | false =>
    have HN := Lib.hid (knew_no size w hm)
    clear hm hZ
    go_enter Try.func7, Try.ntmps7
    go_wp2_with (fail)
    refine HN.out.mono ?_
    rintro e w1 ⟨rfl, hb⟩
    have HB := Lib.hid hb
    clear hb HN
    go_wp2_with (fail)
    refine (kknown_any w1).mono ?_
    rintro e w3 ⟨rfl, hb⟩
    have HB2 := Lib.hid (HB.out.trans (hb.mono HB.out.size))
    clear hb HB
    go_wp2_with (fail)
    go_ret
    exact ⟨rfl, HB2.out⟩
  | true =>
    have hm' := hm
    unfold mayC at hm'
    obtain ⟨m1, m2, m3, m4, m5, m6⟩ := of_decide_eq_true hm'
    obtain ⟨sz, rfl⟩ : ∃ sz : Nat, size = sz := ⟨size.toNat, by omega⟩
    have HMN := Lib.hid (show mayC sz (0 : Nat) = true from hm)
    have HN := Lib.hid (knew_any sz w hm)
    have hsz8 : 8 ≤ sz := by omega
    clear hm hm' m1 m2 m3 m4 m5 m6
    by_cases hok : 0 ≤ n ∧ n ≤ 12 ∧ l1 ≤ 150
    · obtain ⟨nn, rfl⟩ : ∃ nn : Nat, n = nn := ⟨n.toNat, by omega⟩
      obtain ⟨Z, hZb, hmk⟩ := make_bytesK
      have HZ := Lib.hid hZb
      have HL := Lib.hid hZ
      have g2 : ¬ 12 < (nn : Int) := by omega
      have g3 : ¬ 150 < (l1 : Int) := by omega
      have g4 : nn ≤ 12 := by omega
      have g5 : l1 ≤ 150 := by omega
      clear hok hZb hZ
      go_enter Try.func7, Try.ntmps7
      go_wp2_with (fail)
      refine HN.out.mono ?_
      intro e1 w1 h
      obtain ⟨K0, rfl, hK, hlow⟩ := KAt.of_new (Below.refl w.heap.size w) (Nat.le_refl _) h
      have H0 := Lib.hid (show KAt w.heap.size w K0 (lnA 5 2 sz 0) w1 from hK)
      clear hK h HN hlow
      go_wp2_with (fail)
      go_loopw [43] (fun i wr => ∃ (k : Nat) (K : KC), k ≤ nn ∧ i = .int .i64 k ∧ K.c = K0.c ∧ Hid (KAt w.heap.size w K (lnA 5 2 sz k) wr)) (fun i _ => nn - (intOf i).toNat)
      case atStart => exact ⟨0, _, Nat.zero_le _, rfl, rfl, H0⟩
      case round =>
        clear H0
        obtain ⟨k, K, hk, rfl, hKc, H⟩ := hrel
        by_cases hlt : k < nn
        · have hltI : (k : Int) < (nn : Int) := by omega
          have HX := Lib.hid (show ((5 * k + 2 : Nat) : Int) = 5 * (k : Int) + 2 by omega)
          have HA := Lib.hid (H.out.makes (x := 5 * (k : Int) + 2) (by rw [lnA_len]; omega) (int_wfK (by omega) (by omega)) (by omega) (by rw [← HX.out]; exact lnA_new (by decide) k) HZ.out)
          rw [hKc] at HA
          go_wp2_with (fail)
          refine HA.out.mono ?_
          rintro e2 w3 ⟨rfl, K2, h1, h2, h3, h4⟩
          rw [← HX.out, ← lnA_succ] at h1
          have H2 := Lib.hid h1
          rw [hKc] at h2
          clear h1 HA H h3 h4 HX
          go_wp2_with (fail)
          go_roundw
          case rel => exact ⟨k + 1, K2, hlt, by go_num, h2, H2⟩
          case measure => simp [intOf]; omega
        · obtain rfl : k = nn := by omega
          have HP0 := Lib.hid (show PaAt w.heap.size w K (lnA 5 2 sz k) wr from ⟨H.out, by rw [lnA_len]; exact g4⟩)
          clear H hmk HZ hlt HMN hsz8 hk g4
          generalize lnA 5 2 sz k = A0 at *
          go_wp2_with (fail)
          go_loopw [56] (fun i wr => ∃ (j : Nat) (A : Ca), i = .int .i64 j ∧ j ≤ l1 ∧ Hid (PaAt w.heap.size w K A wr)) (fun i _ => l1 - (intOf i).toNat)
          case atStart => exact ⟨0, A0, rfl, Nat.zero_le _, HP0⟩
          case round =>
            clear HP0 A0
            rename World => w4
            obtain ⟨j, A, rfl, hj, HP⟩ := hrel
            by_cases hlt : j < l1
            · obtain ⟨b, o, rfl, hbl, hfr, hi, hc⟩ := HL.out.one j hlt
              have HC := Lib.hid hc
              have hltI : (j : Int) < (l1 : Int) := by omega
              clear hc
              generalize O j = op at *
              by_cases hkd : op.kind = 1
              · have hkdb : (op.kind == 1) = true := by rw [hkd]; rfl
                obtain ⟨d0, _⟩ := HC.out w4 HP.out.k.bel
                rw [hkd] at d0
                have hFR := kframes_any HP.out.k.at_ (Nat.le_trans HP.out.len (by decide))
                rw [frs_all (f := Pl.all) (fun _ _ => rfl), hKc] at hFR
                have HFR := Lib.hid hFR
                clear hFR hkdb hkd HC
                go_wp2_with (fail)
                clear d0
                refine HFR.out.mono ?_
                rintro e w5 ⟨v, rfl, hown, hb⟩
                have hln : (A.L.map Pl.fr).length = A.L.length := List.length_map _
                rw [hln] at hown
                obtain ⟨ea, ec, hv, _⟩ := owns_slice hown
                subst hv
                have HP5 := Lib.hid (show PaAt w.heap.size w K A w5 from ⟨HP.out.k.later hb, HP.out.len⟩)
                have HOW := Lib.hid (fun W (hW : Below w5.heap.size w5 W) => owns_later hown hW)
                have HLN := Lib.hid HP.out.len
                obtain ⟨nl, hnl⟩ : ∃ nl, A.L.length = nl := ⟨_, rfl⟩
                have HNL := Lib.hid hnl
                rw [hnl] at HLN
                have hnl12 := HLN.out
                rw [hnl] at HOW
                rw [hnl]
                clear hown hb HFR hln HP hnl
                generalize w4.heap.size = B4 at *
                go_wp2_with (fail)
                go_loopw [14, 11, 12] (fun i pv ev wr => ∃ m : Nat, m ≤ nl ∧ i = .int .i64 ((m : Int) - 1) ∧ pv = .int .i64 (oneF Pl.prt (A.L.drop m)) ∧ ev = .int .i64 (oneF Pl.emp (A.L.drop m)) ∧ Hid (Below w5.heap.size w5 wr)) (fun i _ _ _ => ((intOf i) + 1).toNat)
                case atStart => exact ⟨nl, Nat.le_refl _, rfl, by rw [← HNL.out, List.drop_length]; rfl, by rw [← HNL.out, List.drop_length]; rfl, Lib.hid (Below.refl _ _)⟩
                case round =>
                  rename World => w6
                  obtain ⟨m, hm, rfl, rfl, rfl, HB6⟩ := hrel
                  rcases Nat.eq_zero_or_pos m with hm0 | hmp
                  · subst hm0
                    rw [List.drop_zero]
                    have hPT := PaAt.take (show PaAt w.heap.size w K A w6 from ⟨HP5.out.k.later HB6.out, HP5.out.len⟩)
                    rw [hKc] at hPT
                    unfold PaTook at hPT
                    have HPT := Lib.hid hPT
                    have HSG := Lib.hid (show (0 ≤ oneF Pl.prt A.L ∨ oneF Pl.prt A.L = -1) ∧ (0 ≤ oneF Pl.emp A.L ∨ oneF Pl.emp A.L = -1) from ⟨oneF_sign _ HP5.out.k.at_.inv.nn, oneF_sign _ HP5.out.k.at_.inv.nn⟩)
                    clear hPT HP5 HOW HLN HNL hnl12 hm
                    generalize oneF Pl.prt A.L = pv at *
                    generalize oneF Pl.emp A.L = ev at *
                    rcases HSG.out.1 with hpv | hpv
                    · go_wp2_with (fail)
                      refine HPT.out.mono ?_
                      rintro e w7 ⟨x, kk, f, A7, rfl, hP7, h7⟩
                      obtain ⟨rfl, rfl⟩ : f = 0 ∧ x = pv := by omega
                      have HP7 := Lib.hid hP7
                      clear hP7 h7 HPT
                      go_wp2_with (fail)
                      go_roundw
                      case rel => exact ⟨j + 1, A7, by go_num, hlt, HP7⟩
                      case measure => simp [intOf]; omega
                    · subst hpv
                      rcases HSG.out.2 with hev | hev
                      · go_wp2_with (fail)
                        refine HPT.out.mono ?_
                        rintro e w7 ⟨x, kk, f, A7, rfl, hP7, h7⟩
                        obtain ⟨rfl, rfl⟩ : f = 0 ∧ x = ev := by omega
                        have HP7 := Lib.hid hP7
                        clear hP7 h7 HPT
                        go_wp2_with (fail)
                        go_roundw
                        case rel => exact ⟨j + 1, A7, by go_num, hlt, HP7⟩
                        case measure => simp [intOf]; omega
                      · subst hev
                        go_wp2_with (fail)
                        refine HPT.out.mono ?_
                        rintro e w7 ⟨x, kk, f, A7, rfl, hP7, h7⟩
                        obtain rfl : f = 7 := by omega
                        have HP7 := Lib.hid hP7
                        clear hP7 h7 HPT
                        go_wp2_with (fail)
                        go_roundw
                        case rel => exact ⟨j + 1, A7, by go_num, hlt, HP7⟩
                        case measure => simp [intOf]; omega
                  · obtain ⟨m', rfl⟩ : ∃ m', m = m' + 1 := ⟨m - 1, by omega⟩
                    have hmlt : m' < A.L.length := by rw [HNL.out]; omega
                    obtain ⟨g, hg, cg⟩ := rowK_at (HOW.out w6 HB6.out) (show m' < nl by omega)
                    subst hg
                    rw [intV_fr hmlt] at cg
                    have hmI : ((m' + 1 : Nat) : Int) - 1 = (m' : Int) := by omega
                    rw [hmI]
                    have hmlI : (m' : Int) < (nl : Int) := by omega
                    have hpm : A.L[m'] ∈ A.L := List.getElem_mem hmlt
                    have hdr : A.L.drop m' = A.L[m'] :: A.L.drop (m' + 1) := List.drop_eq_getElem_cons hmlt
                    have hfd := findL_of HP5.out.k.at_.inv.rise hpm
                    have hsl := (kslab_any (HP5.out.k.at_.later HB6.out) A.L[m'].fr (HP5.out.k.at_.wf _ hpm))
                    unfold KSlab at hsl
                    rw [hfd, hKc] at hsl
                    unfold ptrF at hsl
                    have HSL := Lib.hid hsl
                    have hat := HP5.out.k.at_.fam.at_ _ hpm
                    have HAT := Lib.hid (fun W (hW : Below w5.heap.size w5 W) => chain_ok.later hat hW)
                    have HFR := Lib.hid (fun W (hV : SlAt W (K.g A.L[m'].fr) A.L[m'].S) => chain_ok.free hV)
                    have HCN := Lib.hid (fun W (hV : SlAt W (K.g A.L[m'].fr) A.L[m'].S) => chain_ok.count hV)
                    have HPR := Lib.hid (show oneF Pl.prt (A.L.drop m') = if A.L[m'].prt = true then A.L[m'].fr else oneF Pl.prt (A.L.drop (m' + 1)) by rw [hdr, oneF_cons])
                    have HEM := Lib.hid (show oneF Pl.emp (A.L.drop m') = if A.L[m'].emp = true then A.L[m'].fr else oneF Pl.emp (A.L.drop (m' + 1)) by rw [hdr, oneF_cons])
                    clear hdr hfd hsl hat hpm hm hmp hmI
                    generalize oneF Pl.prt (A.L.drop (m' + 1)) = pv at *
                    generalize oneF Pl.emp (A.L.drop (m' + 1)) = ev at *
                    generalize A.L[m'] = p at *
                    have hcs : (p.S.ch.length = p.S.n ∧ p.emp = true ∧ p.prt = false) ∨ (¬ p.S.ch.length = p.S.n ∧ 0 < p.S.ch.length ∧ p.emp = false ∧ p.prt = true) ∨ (¬ p.S.ch.length = p.S.n ∧ p.S.ch.length = 0 ∧ p.emp = false ∧ p.prt = false) := by
                      by_cases h1 : p.S.ch.length = p.S.n
                      · have h2 : p.emp = true := by unfold Pl.emp; exact decide_eq_true h1
                        exact .inl ⟨h1, h2, prt_emp h2⟩
                      · have h2 : p.emp = false := by unfold Pl.emp; exact decide_eq_false h1
                        by_cases h3 : 0 < p.S.ch.length
                        · exact .inr (.inl ⟨h1, h3, h2, by unfold Pl.prt; rw [decide_eq_true h3, decide_eq_false h1]; rfl⟩)
                        · exact .inr (.inr ⟨h1, by omega, h2, by unfold Pl.prt; rw [decide_eq_false h3]; rfl⟩)
                    generalize p.emp = em at *
                    generalize p.prt = pr at *
                    generalize p.S.ch.length = n1 at *
                    generalize p.S.n = n2 at *
                    generalize p.fr = x at *
                    rcases hcs with ⟨hq, rfl, rfl⟩ | ⟨hq, hq2, rfl, rfl⟩ | ⟨hq, hq2, rfl, rfl⟩
                    · subst hq
                      have HPR2 := Lib.hid (HPR.out.trans (if_neg Bool.false_ne_true))
                      have HEM2 := Lib.hid (HEM.out.trans (if_pos rfl))
                      clear HPR HEM
                      go_wp2_with (fail)
                      refine HSL.out.mono ?_
                      rintro e w7 ⟨rfl, hww⟩
                      subst hww
                      clear HSL
                      go_wp2_with (fail)
                      refine (HFR.out w6 (HAT.out w6 HB6.out)).mono ?_
                      rintro e w7 ⟨rfl, hb⟩
                      have HB7 := Lib.hid (HB6.out.trans (hb.mono HB6.out.size))
                      have cg7 := (hb.cell (World.block_lt_of_cell? _ _ cg)).trans cg
                      clear hb cg
                      go_wp2_with (fail)
                      refine (HCN.out w7 (HAT.out w7 HB7.out)).mono ?_
                      rintro e w8 ⟨rfl, hb⟩
                      have HB8 := Lib.hid (HB7.out.trans (hb.mono HB7.out.size))
                      have cg8 := (hb.cell (World.block_lt_of_cell? _ _ cg7)).trans cg7
                      clear hb cg7 HCN
                      go_wp2_with (fail)
                      clear cg8
                      go_roundw
                      case rel => exact ⟨m', by omega, rfl, by rw [HPR2.out], by rw [HEM2.out], HB8⟩
                      case measure => simp [intOf]
                    · have hqI : ((n1 : Int) == (n2 : Int)) = false := by rw [beq_eq_false_iff_ne]; omega
                      have hqJ : ¬ (n1 : Int) = (n2 : Int) := by omega
                      have hq2I : (0 : Int) < (n1 : Int) := by omega
                      have HPR2 := Lib.hid (HPR.out.trans (if_pos rfl))
                      have HEM2 := Lib.hid (HEM.out.trans (if_neg Bool.false_ne_true))
                      clear HPR HEM
                      go_wp2_with (fail)
                      refine HSL.out.mono ?_
                      rintro e w7 ⟨rfl, hww⟩
                      subst hww
                      clear HSL
                      go_wp2_with (fail)
                      refine (HFR.out w6 (HAT.out w6 HB6.out)).mono ?_
                      rintro e w7 ⟨rfl, hb⟩
                      have HB7 := Lib.hid (HB6.out.trans (hb.mono HB6.out.size))
                      have cg7 := (hb.cell (World.block_lt_of_cell? _ _ cg)).trans cg
                      clear hb cg
                      go_wp2_with (fail)
                      refine (HCN.out w7 (HAT.out w7 HB7.out)).mono ?_
                      rintro e w8 ⟨rfl, hb⟩
                      have HB8 := Lib.hid (HB7.out.trans (hb.mono HB7.out.size))
                      have cg8 := (hb.cell (World.block_lt_of_cell? _ _ cg7)).trans cg7
                      clear hb cg7 HCN
                      go_wp2_with (fail)
                      refine (HFR.out w8 (HAT.out w8 HB8.out)).mono ?_
                      rintro e w9 ⟨rfl, hb⟩
                      have HB9 := Lib.hid (HB8.out.trans (hb.mono HB8.out.size))
                      have cg9 := (hb.cell (World.block_lt_of_cell? _ _ cg8)).trans cg8
                      clear hb cg8 HFR HAT
                      go_wp2_with (fail)
                      clear cg9
                      go_roundw
                      case rel => exact ⟨m', by omega, rfl, by rw [HPR2.out], by rw [HEM2.out], HB9⟩
                      case measure => simp [intOf]
                    · subst hq2
                      have hqI : (((0 : Nat) : Int) == (n2 : Int)) = false := by rw [beq_eq_false_iff_ne]; omega
                      have hqJ : ¬ ((0 : Nat) : Int) = (n2 : Int) := by omega
                      have HPR2 := Lib.hid (HPR.out.trans (if_neg Bool.false_ne_true))
                      have HEM2 := Lib.hid (HEM.out.trans (if_neg Bool.false_ne_true))
                      clear HPR HEM
                      go_wp2_with (fail)
                      refine HSL.out.mono ?_
                      rintro e w7 ⟨rfl, hww⟩
                      subst hww
                      clear HSL
                      go_wp2_with (fail)
                      refine (HFR.out w6 (HAT.out w6 HB6.out)).mono ?_
                      rintro e w7 ⟨rfl, hb⟩
                      have HB7 := Lib.hid (HB6.out.trans (hb.mono HB6.out.size))
                      have cg7 := (hb.cell (World.block_lt_of_cell? _ _ cg)).trans cg
                      clear hb cg
                      go_wp2_with (fail)
                      refine (HCN.out w7 (HAT.out w7 HB7.out)).mono ?_
                      rintro e w8 ⟨rfl, hb⟩
                      have HB8 := Lib.hid (HB7.out.trans (hb.mono HB7.out.size))
                      have cg8 := (hb.cell (World.block_lt_of_cell? _ _ cg7)).trans cg7
                      clear hb cg7 HCN
                      go_wp2_with (fail)
                      refine (HFR.out w8 (HAT.out w8 HB8.out)).mono ?_
                      rintro e w9 ⟨rfl, hb⟩
                      have HB9 := Lib.hid (HB8.out.trans (hb.mono HB8.out.size))
                      have cg9 := (hb.cell (World.block_lt_of_cell? _ _ cg8)).trans cg8
                      clear hb cg8 HFR HAT
                      go_wp2_with (fail)
                      clear cg9
                      go_roundw
                      case rel => exact ⟨m', by omega, rfl, by rw [HPR2.out], by rw [HEM2.out], HB9⟩
                      case measure => simp [intOf]
              · obtain ⟨h, hh1, hh2⟩ := u64_modD op.fr 12 (by decide)
                have hkdb : (op.kind == 1) = false := by rw [beq_eq_false_iff_ne]; exact hkd
                obtain ⟨d0, d1, d2, _, _⟩ := HC.out w4 HP.out.k.bel
                have L1 := Lib.hid (show ∀ W, W.cell? ⟨b, o + j * 5 + 1, none⟩ = some (.int .i64 op.fr) ∧ W.cell? ⟨b, o + j * 5 + 2, none⟩ = some (.int .i64 op.i) → (loadVar 3 ⟨b, o + j * 5 + 1, none⟩).run Try.prog W = .ok (.int .i64 op.fr) W from
                  fun W hW => run_loadVar_cell (fun _ => by kernel_rfl) hW.1)
                have L2 := Lib.hid (show ∀ W, W.cell? ⟨b, o + j * 5 + 1, none⟩ = some (.int .i64 op.fr) ∧ W.cell? ⟨b, o + j * 5 + 2, none⟩ = some (.int .i64 op.i) → (loadVar 3 ⟨b, o + j * 5 + 2, none⟩).run Try.prog W = .ok (.int .i64 op.i) W from
                  fun W hW => run_loadVar_cell (fun _ => by kernel_rfl) hW.2)
                have HCC := Lib.hid (fun W (hW : Below w.heap.size w W) => (show W.cell? ⟨b, o + j * 5 + 1, none⟩ = some (.int .i64 op.fr) ∧ W.cell? ⟨b, o + j * 5 + 2, none⟩ = some (.int .i64 op.i) from ⟨(HC.out W hW).2.1, (HC.out W hW).2.2.1⟩))
                have HP1 := Lib.hid (PaAt.later HP.out (Below.refl w4.heap.size w4).drew)
                have HG := Lib.hid (HP1.out.give (5 * (h : Int) + 2) op.i (int_wfK (by omega) (by omega)))
                rw [hKc] at HG
                clear HC HP1
                generalize op.kind = kd at *
                generalize op.fr = fr at *
                generalize op.i = oi at *
                go_wp2_with (fail)
                clear d0 hkdb hkd HP
                refine wp_region_lex1 (fun W => W.cell? ⟨b, o + j * 5 + 1, none⟩ = some (.int .i64 fr) ∧ W.cell? ⟨b, o + j * 5 + 2, none⟩ = some (.int .i64 oi)) [(0, false), (1, false), (2, false), (3, false), (4, false), (5, false), (6, false), (7, false), (8, false), (9, false), (10, false), (11, false), (12, false), (13, false), (14, false), (15, false), (16, true)]
                  (by kernel_rfl) (by kernel_rfl) rfl (by kernel_rfl) ⟨d1, d2⟩ ?_
                intro W0 hW0 hK0
                rw [← hW0] at HG
                clear hW0 hK0 d1 d2
                refine lexH_yieldE rfl rfl ?_
                apply Exists.intro
                refine ⟨fun W hW => ?_, ?_⟩
                focus (go_simp; exact rfl)
                simp only [List.getElem_toArray, List.getElem_cons_zero, Act.put, List.setIfInBounds_toArray, List.set_cons_zero, List.set_cons_succ]
                refine lexH_yieldE rfl rfl ?_
                apply Exists.intro
                refine ⟨fun W hW => ?_, ?_⟩
                focus (go_simp; exact rfl)
                simp only [List.getElem_toArray, List.getElem_cons_succ, List.getElem_cons_zero, Act.put, List.setIfInBounds_toArray, List.set_cons_zero, List.set_cons_succ]
                refine lexH_yieldE rfl rfl ?_
                apply Exists.intro
                refine ⟨fun W hW => ?_, ?_⟩
                focus (go_simp; exact rfl)
                simp only [List.getElem_toArray, List.getElem_cons_succ, List.getElem_cons_zero, Act.put, List.setIfInBounds_toArray, List.set_cons_zero, List.set_cons_succ]
                refine lexH_yieldE rfl rfl ?_
                apply Exists.intro
                refine ⟨fun W hW => ?_, ?_⟩
                focus (go_simp; exact rfl)
                simp only [List.getElem_toArray, List.getElem_cons_succ, List.getElem_cons_zero, Act.put, List.setIfInBounds_toArray, List.set_cons_zero, List.set_cons_succ]
                refine lexH_yieldE rfl rfl ?_
                apply Exists.intro
                refine ⟨fun W hW => ?_, ?_⟩
                focus (go_simp; exact rfl)
                simp only [List.getElem_toArray, List.getElem_cons_succ, List.getElem_cons_zero, Act.put, List.setIfInBounds_toArray, List.set_cons_zero, List.set_cons_succ]
                refine lexH_load rfl rfl _ _ rfl rfl L1.out ?_
                simp only [List.getElem_toArray, List.getElem_cons_succ, List.getElem_cons_zero, Act.put, List.setIfInBounds_toArray, List.set_cons_zero, List.set_cons_succ]
                refine lexH_yieldE rfl rfl ?_
                apply Exists.intro
                refine ⟨fun W hW => ?_, ?_⟩
                focus (go_simp; exact rfl)
                simp only [List.getElem_toArray, List.getElem_cons_succ, List.getElem_cons_zero, Act.put, List.setIfInBounds_toArray, List.set_cons_zero, List.set_cons_succ]
                refine lexH_yieldE rfl rfl ?_
                apply Exists.intro
                refine ⟨fun W hW => ?_, ?_⟩
                focus (go_simp; exact rfl)
                simp only [List.getElem_toArray, List.getElem_cons_succ, List.getElem_cons_zero, Act.put, List.setIfInBounds_toArray, List.set_cons_zero, List.set_cons_succ]
                refine lexH_yieldE rfl rfl ?_
                apply Exists.intro
                refine ⟨fun W hW => ?_, ?_⟩
                focus (go_simp; exact rfl)
                simp only [List.getElem_toArray, List.getElem_cons_succ, List.getElem_cons_zero, Act.put, List.setIfInBounds_toArray, List.set_cons_zero, List.set_cons_succ]
                rw [wrap_h hh1]
                refine lexH_yieldE rfl rfl ?_
                apply Exists.intro
                refine ⟨fun W hW => ?_, ?_⟩
                focus (go_simp; exact rfl)
                simp only [List.getElem_toArray, List.getElem_cons_succ, List.getElem_cons_zero, Act.put, List.setIfInBounds_toArray, List.set_cons_zero, List.set_cons_succ]
                refine lexH_yieldE rfl rfl ?_
                apply Exists.intro
                refine ⟨fun W hW => ?_, ?_⟩
                focus (go_simp; exact rfl)
                simp only [List.getElem_toArray, List.getElem_cons_succ, List.getElem_cons_zero, Act.put, List.setIfInBounds_toArray, List.set_cons_zero, List.set_cons_succ]
                rw [wrap_52 hh1]
                refine lexH_yieldE rfl rfl ?_
                apply Exists.intro
                refine ⟨fun W hW => ?_, ?_⟩
                focus (go_simp; exact rfl)
                simp only [List.getElem_toArray, List.getElem_cons_succ, List.getElem_cons_zero, Act.put, List.setIfInBounds_toArray, List.set_cons_zero, List.set_cons_succ]
                refine lexH_yieldE rfl rfl ?_
                apply Exists.intro
                refine ⟨fun W hW => ?_, ?_⟩
                focus (go_simp; exact rfl)
                simp only [List.getElem_toArray, List.getElem_cons_succ, List.getElem_cons_zero, Act.put, List.setIfInBounds_toArray, List.set_cons_zero, List.set_cons_succ]
                refine lexH_yieldE rfl rfl ?_
                apply Exists.intro
                refine ⟨fun W hW => ?_, ?_⟩
                focus (go_simp; exact rfl)
                simp only [List.getElem_toArray, List.getElem_cons_succ, List.getElem_cons_zero, Act.put, List.setIfInBounds_toArray, List.set_cons_zero, List.set_cons_succ]
                refine lexH_yieldE rfl rfl ?_
                apply Exists.intro
                refine ⟨fun W hW => ?_, ?_⟩
                focus (go_simp; exact rfl)
                simp only [List.getElem_toArray, List.getElem_cons_succ, List.getElem_cons_zero, Act.put, List.setIfInBounds_toArray, List.set_cons_zero, List.set_cons_succ]
                refine lexH_load rfl rfl _ _ rfl rfl L2.out ?_
                simp only [List.getElem_toArray, List.getElem_cons_succ, List.getElem_cons_zero, Act.put, List.setIfInBounds_toArray, List.set_cons_zero, List.set_cons_succ]
                refine lexH_call 17 #[.pointer (some ⟨K0.c, 0, none⟩), .int .i64 (5 * (h : Int) + 2), .int .i64 oi] rfl rfl ?_ ?_
                focus (go_simp; done)
                refine HG.out.mono ?_
                rintro e w5 ⟨r, A5, rfl, hP5⟩
                have HP5 := Lib.hid hP5
                clear hP5 HG L1 L2 hh2
                refine ⟨_, rfl, HCC.out w5 HP5.out.k.bel, ?_⟩
                clear HCC
                simp only [List.getElem_toArray, List.getElem_cons_succ, List.getElem_cons_zero, Act.put, List.setIfInBounds_toArray, List.set_cons_zero, List.set_cons_succ]
                refine lexH_nil ?_
                go_wp2_with (fail)
                go_roundw
                case rel => exact ⟨j + 1, A5, by go_num, hlt, HP5⟩
                case measure => simp [intOf]; omega
            · obtain rfl : j = l1 := by omega
              clear hlt
              go_wp2_with (fail)
              refine (kknown_any w4).mono ?_
              rintro e5 w5 ⟨rfl, hb⟩
              have HB2 := Lib.hid (HP.out.k.bel.trans (hb.mono HP.out.k.le))
              clear hb
              go_wp2_with (fail)
              go_ret
              exact ⟨rfl, HB2.out⟩
    · rcases (show n < 0 ∨ (¬ n < 0 ∧ 12 < n) ∨ (¬ n < 0 ∧ ¬ 12 < n ∧ 150 < (l1 : Int)) by omega) with h1 | ⟨h1, h2⟩ | ⟨h1, h2, h3⟩
      all_goals
        clear hok hZ
        go_enter Try.func7, Try.ntmps7
        go_wp2_with (fail)
        refine HN.out.mono ?_
        rintro e w1 ⟨K, rfl, _, hb, _⟩
        have HB := Lib.hid hb
        clear hb HN
        go_wp2_with (fail)
        refine (kknown_any w1).mono ?_
        rintro e w3 ⟨rfl, hb⟩
        have HB2 := Lib.hid (HB.out.trans (hb.mono HB.out.size))
        clear hb HB
        go_wp2_with (fail)
        go_ret
        exact ⟨rfl, HB2.out⟩
end Go.Proofs.Ytlimbcpghfddkaa
