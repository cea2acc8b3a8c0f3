/-
  The walk of TableLeaves, for whatever table.
-/
import Derived.Test.YtnjdcgjaffageaaTbLv
import Derived.Deep.LoopGhost
import Derived.TacticsInMore
import Derived.LoopNIn
import Derived.LoopIn
import Derived.OwnWalkIn
namespace Go.Proofs.Ytnjdcgjaffageaa
open Go.RowKit Go.Shelf Go
attribute [local go_sem] Oper.semAt_some

def want0 : Array Value := Array.replicate 32 (.int .i64 0)
theorem zero_want32 (W : World) : (zeroValue 48).run Try.prog W = .ok (.agg want0) W := by kernel_rfl
theorem want0_row (w : World) : RowAt (w.alloc (.cells want0 48)) w.heap.size 32 (fun _ => .int .i64 0) := RowAt.new w _ _ _ _ fun i hi => by
  unfold want0
  rw [Array.getElem?_replicate, if_pos hi]
section
variable {IsT : Thg → Nat → (Nat → Nat) → (Nat → Nat → Ent) → Prop} (ok : TabOk IsT)
include ok
set_option maxRecDepth 100000 in
set_option maxHeartbeats 8000000 in
theorem lawTLeaves_in (q : Nat) (hm : 8 ≤ q) (a : Option Addr) (len cap : Nat) (z : Nat → Int) (a2 : Option Addr) (len2 cap2 : Nat) (z2 : Nat → Int) (w : World) (hZ : IntsIn w a len z) (hO : IntsIn w a2 len2 z2) :
    CallsIn Fence.wide q Try.prog 5 #[.slice a len cap, .slice a2 len2 cap2] w fun e w' => e = .returned (.bool true) ∧ Below w.heap.size w w' := by
  have h1 : 1 ≤ q := by omega
  have HZ := Lib.hid hZ
  have HO := Lib.hid hO
  clear hZ hO
  refine callsIn_of_wp_marks Try.func5 rfl trivial ?_ rfl
  simp only [Try.ntmps5, List.size_toArray, List.length_cons, List.length_nil, Nat.reduceAdd, Nat.reduceSub, Array.replicate_succ, Array.replicate_zero, List.push_toArray, List.append_toArray, List.nil_append, List.cons_append]
  refine wpIn_wide.2 ?_
  have ha : Below w.heap.size w (w.alloc (.cells #[.bool false] 4)) := (Below.refl _ w).alloc (Nat.le_refl _) _
  have HRC := Lib.hid (RowAt.new w #[.bool false] 4 1 (fun _ => .bool false) (fun i hi => by
    obtain rfl : i = 0 := by omega
    rfl))
  have HB0 := Lib.hid ha
  have hs1 : (w.alloc (.cells #[.bool false] 4)).heap.size = w.heap.size + 1 := by simp
  clear ha
  go_wp2_with (fail)
  generalize w.alloc (.cells #[.bool false] 4) = wa at *
  refine (four_any wa).mono ?_
  rintro e w1 ⟨A, rfl, hA, hb⟩
  have HB1 := Lib.hid (HB0.out.trans (hb.mono HB0.out.size))
  have HRC1 := Lib.hid (HRC.out.later hb)
  have hsz1 : w.heap.size < w1.heap.size := by have := hb.size; omega
  clear hb HRC HB0 hs1
  go_wp2_with (fail)
  refine (made_mk ok w1 A hA).mono ?_
  rintro e w2 ⟨m, rfl, hK⟩
  have HK2 := Lib.hid hK
  clear hK hA
  have HRC2 := Lib.hid (HRC1.out.below HK2.out.bel hsz1)
  by_cases hl : len ≤ 60 ∧ len ≤ len2
  · obtain ⟨hl1, hl2⟩ := hl
    have hl1I : ¬ (60 : Int) < len := by omega
    have hl2I : ¬ (len2 : Int) < len := by omega
    have hd1 : decide ((60 : Int) < (len : Int)) = false := decide_eq_false hl1I
    have hd2 : decide (len2 < len) = false := decide_eq_false (by omega)
    have hz := zero_want32
    obtain ⟨w3, hw3⟩ : ∃ w3, w2.alloc (.cells want0 48) = w3 := ⟨_, rfl⟩
    have HA0 := Lib.hid (show LvAt IsT w1 m w2.heap.size (fun _ => 0) [] (fun _ => False) w3 from by
      rw [← hw3]
      exact ⟨HK2.out.kp.add ((Below.refl _ _).alloc (Nat.le_refl _) _) (fun k hk => by
        rcases hk with hk | hk | hk
        · exact .inr ⟨Nat.le_of_eq hk.symm, by rw [hk]; simp⟩
        · exact absurd hk List.not_mem_nil
        · exact hk.elim), want0_row w2, fun _ => Nat.zero_le _, HK2.out.bel.size, List.nodup_nil, fun D hD => absurd hD List.not_mem_nil⟩)
    have HRC3 := Lib.hid (show RowAt w3 w.heap.size 1 (fun _ => .bool false) from by rw [← hw3]; exact HRC2.out.alloc _)
    go_wp2_with (fail)
    clear hw3 hz HK2 HRC2
    generalize w2.heap.size = wb at *
    refine wp_loop_ghost (fun j a' W => ∃ (k : Nat) (R : Nat → Nat) (Ds : List Nat), j = len - k ∧ k ≤ len ∧ a'.tmps.size = 140 ∧ a'.tmps[0]? = some (.slice a len cap) ∧ a'.tmps[1]? = some (.slice a2 len2 cap2) ∧ a'.tmps[4]? = some (.pointer (some ⟨w.heap.size, 0, none⟩)) ∧ a'.tmps[5]? = some (.pointer (some ⟨m, 0, none⟩)) ∧ a'.tmps[7]? = some (.pointer (some ⟨wb, 0, none⟩)) ∧
      a'.tmps[47]? = some (.int .i64 len) ∧ a'.tmps[48]? = some (.int .i64 k) ∧ a'.defers = colls Ds ∧ LvAt IsT w1 m wb R Ds (fun _ => False) W) len
      ⟨0, _, [], rfl, Nat.zero_le _, rfl, rfl, rfl, rfl, rfl, rfl, rfl, rfl, rfl, HA0.out⟩ ?_
    clear HA0
    rintro j ⟨tm, df⟩ wr ⟨k, R, Ds, rfl, hk, s0, t0, t1, t4, t5, t7, t47, t48, rfl, hA⟩
    dsimp only at s0 t0 t1 t4 t5 t7 t47 t48
    obtain ⟨u, rfl⟩ := lv_frame s0 t0 t1 t4 t5 t7 t47 t48
    have HA := Lib.hid hA
    clear s0 t0 t1 t4 t5 t7 t47 t48 hA
    unfold lvF
    by_cases hlt : k < len
    · obtain ⟨gp, op, rfl, hgp, hpI, hpat⟩ := HZ.out.one k hlt
      obtain ⟨ge, oe, rfl, hge, hlI, hlat⟩ := HO.out.one k (by omega)
      have hklI : (k : Int) < len := by omega
      have hklI2 : (k : Int) < len2 := by omega
      have HPAT := Lib.hid hpat
      have HPI := Lib.hid (show InI (z k) from hpI)
      have HBW := Lib.hid (HB1.out.trans (HA.out.bel.mono HB1.out.size))
      obtain ⟨p, hp⟩ : ∃ p, z k = p := ⟨_, rfl⟩
      obtain ⟨l, hl⟩ : ∃ l, z2 k = l := ⟨_, rfl⟩
      have kp := hpat wr HBW.out
      have kl := hlat wr HBW.out
      rw [hp] at HPAT HPI kp
      rw [hl] at kl hlI
      clear hp hl hpat hpI hlat
      by_cases hb1 : l < -1
      · go_wp2_with (fail)
        first | exact ⟨len - (k + 1), by omega, k + 1, R, Ds, rfl, hlt, rfl, rfl, rfl, rfl, rfl, rfl, rfl, rfl, rfl, HA.out⟩ | exact ⟨len - (k + 1), by omega, k + 1, rfl, hlt, by omega, R, Ds, rfl, HA.out⟩
      · by_cases hb2 : l = 0
        · subst hb2
          go_wp2_with (fail)
          first | exact ⟨len - (k + 1), by omega, k + 1, R, Ds, rfl, hlt, rfl, rfl, rfl, rfl, rfl, rfl, rfl, rfl, rfl, HA.out⟩ | exact ⟨len - (k + 1), by omega, k + 1, rfl, hlt, by omega, R, Ds, rfl, HA.out⟩
        · have hb2I : (l == 0) = false := by simp; omega
          by_cases hb3 : 3 < l
          · go_wp2_with (fail)
            first | exact ⟨len - (k + 1), by omega, k + 1, R, Ds, rfl, hlt, rfl, rfl, rfl, rfl, rfl, rfl, rfl, rfl, rfl, HA.out⟩ | exact ⟨len - (k + 1), by omega, k + 1, rfl, hlt, by omega, R, Ds, rfl, HA.out⟩
          · by_cases hlo : p < 0
            · have hloI : ¬ 0 ≤ p := by omega
              have hnp : ¬ Pg p := fun h => by have := h.1; have := h.2; omega
              obtain ⟨N, hN3, hlN⟩ : ∃ N : Nat, N ≤ 3 ∧ l = if N = 0 then -1 else (N : Int) := by
                by_cases h : l = -1
                · exact ⟨0, by omega, by rw [if_pos rfl]; exact h⟩
                · exact ⟨l.toNat, by omega, by rw [if_neg (by omega)]; omega⟩
              have HLN := Lib.hid hlN
              have HNP := Lib.hid hnp
              have HN3 := Lib.hid hN3
              clear hlN hnp hN3
              as_aux_lemma =>
                go_wp2_with (fail)
                refine (setLeaf_mkp ok HA.out.mem p l N HPI.out HN3.out HLN.out 2 (R) (if_neg HNP.out) (if_neg HNP.out)).mono ?_
                rintro e w5 ⟨rfl, hm, ho⟩
                have HA5 := Lib.hid (HA.out.same hm ho)
                have kp : w5.cell? ⟨gp, op + k, none⟩ = some (.int .i64 p) := HPAT.out w5 (HB1.out.trans (HA5.out.bel.mono HB1.out.size))
                clear hm ho HA HBW kl HLN HNP HN3
                have HALC := Lib.hid (show LvAt IsT w1 m wb (R) Ds (fun k => k = w5.heap.size) (w5.alloc (.cells #[.int .i64 0] 3)) from HA5.out.add ((Below.refl _ _).alloc (Nat.le_refl _) _) (fun k hk => .inr ⟨Nat.le_of_eq hk.symm, by rw [hk]; simp⟩))
                have HN6 := Lib.hid (show RowAt (w5.alloc (.cells #[.int .i64 0] 3)) w5.heap.size 1 (fun _ => .int .i64 0) from RowAt.new w5 _ _ _ _ (fun i hi => by
                  obtain rfl : i = 0 := by omega
                  rfl))
                have HBL := Lib.hid (show w1.heap.size ≤ w5.heap.size ∧ wb < w5.heap.size ∧ ∀ D ∈ Ds, D < w5.heap.size from ⟨HA5.out.bel.size, HA5.out.row.lt, fun D hD => (Array.getElem?_eq_some_iff.1 (HA5.out.ds D hD).1).1⟩)
                go_wp2_with (fail)
                have HS6 := Lib.hid (show w5.heap.size < (w5.alloc (.cells #[.int .i64 0] 3)).heap.size from by simp)
                generalize w5.alloc (.cells #[.int .i64 0] 3) = W6 at *
                generalize w5.heap.size = bl at *
                obtain ⟨X, hX, hXA, hX3, hX4, hX5⟩ := HALC.out.mem
                refine (ok.leaves hX hXA).mono ?_
                rintro e W7 ⟨g0, lb0, own0, rfl, hb, _, hnil0, _, _⟩
                have HA7 := Lib.hid (HALC.out.later hb)
                have HN7 := Lib.hid (HN6.out.later hb)
                have HS7 := Lib.hid (Nat.lt_of_lt_of_le HS6.out hb.size)
                clear hb HALC HN6 HS6 hX hXA hX3 hX4 hX5
                go_wp2_with (fail)
                clear hnil0
                obtain ⟨X, hX, hXA, hX3, hX4, hX5⟩ := HA7.out.mem
                refine (ok.leaves hX hXA).mono ?_
                rintro e W8 ⟨g1, lb1, own1, rfl, hb, hent1, hnil1, hown1, hT1⟩
                have HA8 := Lib.hid (HA7.out.later hb)
                have HN8 := Lib.hid (HN7.out.later hb)
                have HS8 := Lib.hid (Nat.lt_of_lt_of_le HS7.out hb.size)
                have hs78 := hb.size
                have HOWN := Lib.hid (show ∀ i, own1 i → i < W8.heap.size ∧ ¬ i = bl from fun i hi => by
                  obtain ⟨h1, h2⟩ := hown1 i hi
                  refine ⟨h2, fun e => ?_⟩
                  rcases h1 with h1 | h1
                  · exact (hX4 i h1).2 (.inr (.inr e))
                  · have := HS7.out
                    omega)
                have HENT := Lib.hid hent1
                obtain ⟨L, hL⟩ : ∃ L, leafL (R) 32 = L := ⟨_, rfl⟩
                have HTL := Lib.hid (show TlR (R) 32 L from by rw [← hL]; exact leafL_tl _ 32)
                rw [hL] at hT1
                have HT1 := Lib.hid hT1
                clear hb HA7 HN7 HS7 hX hXA hX3 hX4 hX5 hnil1 hown1 hent1 hT1 hL hs78
                go_wp2_with (fail)
                have hsz8 := HS8.out
                have hsq := HT1.out.solo (q - 1) (by omega) (fun i => i = bl) (fun i hi => by omega) HOWN.out
                have HNX := Lib.hid (show NxAt W8 bl L ([] : List (Fin L.length)).length W8 from ⟨HN8.out, Only.refl _ _⟩)
                clear HN8 HOWN
                refine (wpIn_wide (n := q)).1 ?_
                refine range_o2 rfl h1 (gf := g1) (lb := lb1) (by simp [go_sem]) trivial HENT.out hsq (fun x => .int .i64 ((L[x.val]'x.isLt).1 : Nat)) (fun x => .int .i64 ((L[x.val]'x.isLt).2 : Nat)) (fun x => rfl) KpZ.trans (fun W l o o' _ _ _ => KpZ.put W l o') (fun pre W => NxAt W8 bl L pre.length W) (fun _ _ _ => False) (nx_own (by omega)) (fun _ _ _ _ _ h _ _ => h) HNX.out
                  12 13 ?assign1 ?body1 ?done1 (fun _ _ _ _ _ _ hIx _ => hIx.elim)
                case assign1 =>
                  intro l' pre x V K hl' hI hK
                  have HK := Lib.hid hK
                  have HI := Lib.hid hI
                  clear hK hI hsq
                  gi_wp2_with (fail)
                  have h9 := HK.out V (KeepsFrom.refl _ _) HI.out (KpZ.of_below (Below.refl _ _))
                  simpa using h9
                case body1 =>
                  rintro l' pre x U0 V hl' hI hk0 hlen2
                  obtain ⟨hxl, _⟩ := next_of_some hlen2
                  have HK0 := Lib.hid hk0
                  have hpl : pre.length < L.length := by rw [← hxl]; exact x.isLt
                  obtain ⟨y, hy⟩ : ∃ y, L[pre.length]'hpl = y := ⟨_, rfl⟩
                  have hq2 : L[x.val]'x.isLt = y := by rw [← hy]; exact getElem_congr_idx hxl
                  obtain ⟨v1, v2, v3, v4⟩ := HTL.out.val pre.length hpl
                  have vg := HTL.out.gap pre.length hpl
                  rw [hy] at v1 v2 v3 v4 vg
                  have HNXT := Lib.hid (show nx L (pre.length + 1) = y.1 + 1 from by rw [nx_succ hpl, hy])
                  obtain ⟨i, fr⟩ := y
                  dsimp only at v1 v2 v3 v4 vg HNXT
                  have HFR := Lib.hid v1
                  have HNE := Lib.hid v2
                  have HGAP := Lib.hid vg
                  have HNR := Lib.hid hI.row
                  have HNO := Lib.hid hI.only
                  have HLV := Lib.hid (HA8.out.only hI.only (fun k hk => by obtain ⟨a1, a2, a3⟩ := HBL.out; exact ⟨hk, by omega, by omega, fun hd => by have := a3 k hd; omega⟩))
                  have kn : V.cell? ⟨bl, 0, none⟩ = some (.int .i64 (nx L pre.length)) := hI.row.cell 0 (by decide)
                  have hblV : bl < V.heap.size := HNR.out.lt
                  simp only [hq2]
                  clear hsq hk0 hy hq2 hI hxl v1 v2 vg hlen2
                  generalize hjl : pre.length = j at *
                  have HJL := Lib.hid hjl
                  clear hjl
                  gi_wp2_with (fail)
                  simp only [List.setIfInBounds_toArray, List.set_cons_succ, List.set_cons_zero]
                  gi_loopw [] (fun wr => ∃ n : Nat, nx L j ≤ n ∧ n ≤ i ∧ Hid (PgAt V bl n wr)) (fun wr => i - cntAt wr bl)
                  case atStart => exact ⟨nx L j, Nat.le_refl _, v3, Lib.hid ⟨HNR.out, Only.refl _ _⟩⟩
                  case round =>
                    obtain ⟨n, hn1, hn2, HP⟩ := hrel
                    have HLW := Lib.hid (HLV.out.only HP.out.only (fun k hk => by obtain ⟨a1, a2, a3⟩ := HBL.out; exact ⟨hk, by omega, by omega, fun hd => by have := a3 k hd; omega⟩))
                    have kn : wr.cell? ⟨bl, 0, none⟩ = some (.int .i64 n) := HP.out.pg.cell 0 (by decide)
                    have kw : wr.cell? ⟨wb, n, none⟩ = some (.int .i64 ((R) n)) := HLW.out.row.cell n (by omega)
                    have kf : wr.frozen? ⟨bl, 0, none⟩ = false := HP.out.pg.frozen 0
                    have hn32 : (n : Int) < 32 := by omega
                    have hn31 : ¬ (31 : Int) < n := by omega
                    have HP3 := Lib.hid HP.out.step
                    by_cases hlq : n < i
                    · rw [HGAP.out n hn1 hlq] at kw
                      have kw : wr.cell? ⟨wb, n, none⟩ = some (.int .i64 0) := kw
                      have HCA := Lib.hid (show i - cntAt (wr.setCell ⟨bl, 0, none⟩ (.int .i64 ((n : Int) + 1))) bl < i - cntAt wr bl from by
                        rw [cntAt_of kn, cntAt_of (k := n + 1) (HP3.out.pg.cell 0 (by decide))]
                        omega)
                      clear HLW
                      gi_wp2_with (fail)
                      exact ⟨⟨n + 1, by omega, by omega, HP3⟩, HCA.out⟩
                    · obtain rfl : n = i := by omega
                      rw [← HFR.out] at kw
                      have hne : ((fr : Int) == 0) = false := by
                        have := HNE.out
                        rw [← HFR.out] at this
                        simp; omega
                      have hne2 : ¬ fr = 0 := by
                        have := HNE.out
                        rw [← HFR.out] at this
                        exact this
                      clear HLW
                      gi_wp2_with (fail)
                      have HON := Lib.hid (HP3.out.only)
                      refine ⟨⟨HON.out.size, fun i o hB hi hc => (HON.out.block i (Array.getElem?_eq_some_iff.1 hi).1 (by omega)).trans hi⟩, HK0.out.trans (KpZ.of_only HON.out), ?_⟩
                      show NxAt W8 bl L (pre ++ [x]).length _
                      rw [List.length_append, HJL.out]
                      refine ⟨?_, HNO.out.trans HON.out⟩
                      show RowAt _ bl 1 (fun _ => .int .i64 (nx L (j + 1) : Nat))
                      rw [HNXT.out]
                      exact HP3.out.pg
                case done1 =>
                  rintro D xs V hD hxs hI hDk
                  have hxl : xs.length = L.length := by
                    have := congrArg List.length hxs
                    simpa using this
                  rw [hxl] at hI
                  have HA9 := Lib.hid (HA8.out.more (Q' := fun k => k = bl) hI.only (fun k hk => by obtain ⟨a1, a2, a3⟩ := HBL.out; exact ⟨hk, by omega, by omega, fun hd => by have := a3 k hd; omega⟩) hDk hD (fun _ h => h))
                  have HNR := Lib.hid hI.row
                  have HREST := Lib.hid HTL.out.rest
                  have hle := HTL.out.le
                  have hDbl : bl < D := by omega
                  clear hsq hI hxs hxl hDk HA8 HNX HT1 HENT HTL
                  go_wp2_with (fail)
                  go_loopw [] (fun wr => ∃ n : Nat, nx L L.length ≤ n ∧ n ≤ 32 ∧ Hid (PgAt V bl n wr)) (fun wr => 32 - cntAt wr bl)
                  case atStart => exact ⟨nx L L.length, Nat.le_refl _, hle, Lib.hid ⟨HNR.out, Only.refl _ _⟩⟩
                  case round =>
                    obtain ⟨n, hn1, hn2, HP⟩ := hrel
                    have HLW := Lib.hid (HA9.out.only HP.out.only (fun k hk => by
                      obtain ⟨a1, a2, a3⟩ := HBL.out
                      refine ⟨hk, by omega, by omega, fun hd => ?_⟩
                      rcases List.mem_cons.1 hd with rfl | hd
                      · omega
                      · have := a3 k hd; omega))
                    have kn : wr.cell? ⟨bl, 0, none⟩ = some (.int .i64 n) := HP.out.pg.cell 0 (by decide)
                    have kf : wr.frozen? ⟨bl, 0, none⟩ = false := HP.out.pg.frozen 0
                    have HP3 := Lib.hid HP.out.step
                    by_cases hlq : n < 32
                    · have kw : wr.cell? ⟨wb, n, none⟩ = some (.int .i64 ((R) n)) := HLW.out.row.cell n hlq
                      rw [HREST.out n hn1 hlq] at kw
                      have kw : wr.cell? ⟨wb, n, none⟩ = some (.int .i64 0) := kw
                      have hn32 : (n : Int) < 32 := by omega
                      have HCA := Lib.hid (show 32 - cntAt (wr.setCell ⟨bl, 0, none⟩ (.int .i64 ((n : Int) + 1))) bl < 32 - cntAt wr bl from by
                        rw [cntAt_of kn, cntAt_of (k := n + 1) (HP3.out.pg.cell 0 (by decide))]
                        omega)
                      clear HLW
                      go_wp2_with (fail)
                      go_roundw
                      case rel => exact ⟨n + 1, by omega, by omega, HP3⟩
                      case measure => exact HCA.out
                    · obtain rfl : n = 32 := by omega
                      have HF := Lib.hid (show LvAt IsT w1 m wb (R) (D :: Ds) (fun _ => False) wr from HLW.out.add (Below.refl _ _) (fun _ h => h.elim))
                      clear HLW
                      go_wp2_with (fail)
                      first | exact ⟨len - (k + 1), by omega, k + 1, (R), D :: Ds, rfl, hlt, rfl, rfl, rfl, rfl, rfl, rfl, rfl, rfl, rfl, HF.out⟩ | exact ⟨len - (k + 1), by omega, k + 1, rfl, hlt, by omega, (R), D :: Ds, rfl, HF.out⟩
            · by_cases hhi : 1024 ≤ p
              · have hloI : 0 ≤ p := by omega
                have hhiI : ¬ p < 1024 := by omega
                have hnp : ¬ Pg p := fun h => by have := h.1; have := h.2; omega
                obtain ⟨N, hN3, hlN⟩ : ∃ N : Nat, N ≤ 3 ∧ l = if N = 0 then -1 else (N : Int) := by
                  by_cases h : l = -1
                  · exact ⟨0, by omega, by rw [if_pos rfl]; exact h⟩
                  · exact ⟨l.toNat, by omega, by rw [if_neg (by omega)]; omega⟩
                have HLN := Lib.hid hlN
                have HNP := Lib.hid hnp
                have HN3 := Lib.hid hN3
                clear hlN hnp hN3
                as_aux_lemma =>
                  go_wp2_with (fail)
                  refine (setLeaf_mkp ok HA.out.mem p l N HPI.out HN3.out HLN.out 2 (R) (if_neg HNP.out) (if_neg HNP.out)).mono ?_
                  rintro e w5 ⟨rfl, hm, ho⟩
                  have HA5 := Lib.hid (HA.out.same hm ho)
                  have kp : w5.cell? ⟨gp, op + k, none⟩ = some (.int .i64 p) := HPAT.out w5 (HB1.out.trans (HA5.out.bel.mono HB1.out.size))
                  clear hm ho HA HBW kl HLN HNP HN3
                  have HALC := Lib.hid (show LvAt IsT w1 m wb (R) Ds (fun k => k = w5.heap.size) (w5.alloc (.cells #[.int .i64 0] 3)) from HA5.out.add ((Below.refl _ _).alloc (Nat.le_refl _) _) (fun k hk => .inr ⟨Nat.le_of_eq hk.symm, by rw [hk]; simp⟩))
                  have HN6 := Lib.hid (show RowAt (w5.alloc (.cells #[.int .i64 0] 3)) w5.heap.size 1 (fun _ => .int .i64 0) from RowAt.new w5 _ _ _ _ (fun i hi => by
                    obtain rfl : i = 0 := by omega
                    rfl))
                  have HBL := Lib.hid (show w1.heap.size ≤ w5.heap.size ∧ wb < w5.heap.size ∧ ∀ D ∈ Ds, D < w5.heap.size from ⟨HA5.out.bel.size, HA5.out.row.lt, fun D hD => (Array.getElem?_eq_some_iff.1 (HA5.out.ds D hD).1).1⟩)
                  go_wp2_with (fail)
                  have HS6 := Lib.hid (show w5.heap.size < (w5.alloc (.cells #[.int .i64 0] 3)).heap.size from by simp)
                  generalize w5.alloc (.cells #[.int .i64 0] 3) = W6 at *
                  generalize w5.heap.size = bl at *
                  obtain ⟨X, hX, hXA, hX3, hX4, hX5⟩ := HALC.out.mem
                  refine (ok.leaves hX hXA).mono ?_
                  rintro e W7 ⟨g0, lb0, own0, rfl, hb, _, hnil0, _, _⟩
                  have HA7 := Lib.hid (HALC.out.later hb)
                  have HN7 := Lib.hid (HN6.out.later hb)
                  have HS7 := Lib.hid (Nat.lt_of_lt_of_le HS6.out hb.size)
                  clear hb HALC HN6 HS6 hX hXA hX3 hX4 hX5
                  go_wp2_with (fail)
                  clear hnil0
                  obtain ⟨X, hX, hXA, hX3, hX4, hX5⟩ := HA7.out.mem
                  refine (ok.leaves hX hXA).mono ?_
                  rintro e W8 ⟨g1, lb1, own1, rfl, hb, hent1, hnil1, hown1, hT1⟩
                  have HA8 := Lib.hid (HA7.out.later hb)
                  have HN8 := Lib.hid (HN7.out.later hb)
                  have HS8 := Lib.hid (Nat.lt_of_lt_of_le HS7.out hb.size)
                  have hs78 := hb.size
                  have HOWN := Lib.hid (show ∀ i, own1 i → i < W8.heap.size ∧ ¬ i = bl from fun i hi => by
                    obtain ⟨h1, h2⟩ := hown1 i hi
                    refine ⟨h2, fun e => ?_⟩
                    rcases h1 with h1 | h1
                    · exact (hX4 i h1).2 (.inr (.inr e))
                    · have := HS7.out
                      omega)
                  have HENT := Lib.hid hent1
                  obtain ⟨L, hL⟩ : ∃ L, leafL (R) 32 = L := ⟨_, rfl⟩
                  have HTL := Lib.hid (show TlR (R) 32 L from by rw [← hL]; exact leafL_tl _ 32)
                  rw [hL] at hT1
                  have HT1 := Lib.hid hT1
                  clear hb HA7 HN7 HS7 hX hXA hX3 hX4 hX5 hnil1 hown1 hent1 hT1 hL hs78
                  go_wp2_with (fail)
                  have hsz8 := HS8.out
                  have hsq := HT1.out.solo (q - 1) (by omega) (fun i => i = bl) (fun i hi => by omega) HOWN.out
                  have HNX := Lib.hid (show NxAt W8 bl L ([] : List (Fin L.length)).length W8 from ⟨HN8.out, Only.refl _ _⟩)
                  clear HN8 HOWN
                  refine (wpIn_wide (n := q)).1 ?_
                  refine range_o2 rfl h1 (gf := g1) (lb := lb1) (by simp [go_sem]) trivial HENT.out hsq (fun x => .int .i64 ((L[x.val]'x.isLt).1 : Nat)) (fun x => .int .i64 ((L[x.val]'x.isLt).2 : Nat)) (fun x => rfl) KpZ.trans (fun W l o o' _ _ _ => KpZ.put W l o') (fun pre W => NxAt W8 bl L pre.length W) (fun _ _ _ => False) (nx_own (by omega)) (fun _ _ _ _ _ h _ _ => h) HNX.out
                    12 13 ?assign1 ?body1 ?done1 (fun _ _ _ _ _ _ hIx _ => hIx.elim)
                  case assign1 =>
                    intro l' pre x V K hl' hI hK
                    have HK := Lib.hid hK
                    have HI := Lib.hid hI
                    clear hK hI hsq
                    gi_wp2_with (fail)
                    have h9 := HK.out V (KeepsFrom.refl _ _) HI.out (KpZ.of_below (Below.refl _ _))
                    simpa using h9
                  case body1 =>
                    rintro l' pre x U0 V hl' hI hk0 hlen2
                    obtain ⟨hxl, _⟩ := next_of_some hlen2
                    have HK0 := Lib.hid hk0
                    have hpl : pre.length < L.length := by rw [← hxl]; exact x.isLt
                    obtain ⟨y, hy⟩ : ∃ y, L[pre.length]'hpl = y := ⟨_, rfl⟩
                    have hq2 : L[x.val]'x.isLt = y := by rw [← hy]; exact getElem_congr_idx hxl
                    obtain ⟨v1, v2, v3, v4⟩ := HTL.out.val pre.length hpl
                    have vg := HTL.out.gap pre.length hpl
                    rw [hy] at v1 v2 v3 v4 vg
                    have HNXT := Lib.hid (show nx L (pre.length + 1) = y.1 + 1 from by rw [nx_succ hpl, hy])
                    obtain ⟨i, fr⟩ := y
                    dsimp only at v1 v2 v3 v4 vg HNXT
                    have HFR := Lib.hid v1
                    have HNE := Lib.hid v2
                    have HGAP := Lib.hid vg
                    have HNR := Lib.hid hI.row
                    have HNO := Lib.hid hI.only
                    have HLV := Lib.hid (HA8.out.only hI.only (fun k hk => by obtain ⟨a1, a2, a3⟩ := HBL.out; exact ⟨hk, by omega, by omega, fun hd => by have := a3 k hd; omega⟩))
                    have kn : V.cell? ⟨bl, 0, none⟩ = some (.int .i64 (nx L pre.length)) := hI.row.cell 0 (by decide)
                    have hblV : bl < V.heap.size := HNR.out.lt
                    simp only [hq2]
                    clear hsq hk0 hy hq2 hI hxl v1 v2 vg hlen2
                    generalize hjl : pre.length = j at *
                    have HJL := Lib.hid hjl
                    clear hjl
                    gi_wp2_with (fail)
                    simp only [List.setIfInBounds_toArray, List.set_cons_succ, List.set_cons_zero]
                    gi_loopw [] (fun wr => ∃ n : Nat, nx L j ≤ n ∧ n ≤ i ∧ Hid (PgAt V bl n wr)) (fun wr => i - cntAt wr bl)
                    case atStart => exact ⟨nx L j, Nat.le_refl _, v3, Lib.hid ⟨HNR.out, Only.refl _ _⟩⟩
                    case round =>
                      obtain ⟨n, hn1, hn2, HP⟩ := hrel
                      have HLW := Lib.hid (HLV.out.only HP.out.only (fun k hk => by obtain ⟨a1, a2, a3⟩ := HBL.out; exact ⟨hk, by omega, by omega, fun hd => by have := a3 k hd; omega⟩))
                      have kn : wr.cell? ⟨bl, 0, none⟩ = some (.int .i64 n) := HP.out.pg.cell 0 (by decide)
                      have kw : wr.cell? ⟨wb, n, none⟩ = some (.int .i64 ((R) n)) := HLW.out.row.cell n (by omega)
                      have kf : wr.frozen? ⟨bl, 0, none⟩ = false := HP.out.pg.frozen 0
                      have hn32 : (n : Int) < 32 := by omega
                      have hn31 : ¬ (31 : Int) < n := by omega
                      have HP3 := Lib.hid HP.out.step
                      by_cases hlq : n < i
                      · rw [HGAP.out n hn1 hlq] at kw
                        have kw : wr.cell? ⟨wb, n, none⟩ = some (.int .i64 0) := kw
                        have HCA := Lib.hid (show i - cntAt (wr.setCell ⟨bl, 0, none⟩ (.int .i64 ((n : Int) + 1))) bl < i - cntAt wr bl from by
                          rw [cntAt_of kn, cntAt_of (k := n + 1) (HP3.out.pg.cell 0 (by decide))]
                          omega)
                        clear HLW
                        gi_wp2_with (fail)
                        exact ⟨⟨n + 1, by omega, by omega, HP3⟩, HCA.out⟩
                      · obtain rfl : n = i := by omega
                        rw [← HFR.out] at kw
                        have hne : ((fr : Int) == 0) = false := by
                          have := HNE.out
                          rw [← HFR.out] at this
                          simp; omega
                        have hne2 : ¬ fr = 0 := by
                          have := HNE.out
                          rw [← HFR.out] at this
                          exact this
                        clear HLW
                        gi_wp2_with (fail)
                        have HON := Lib.hid (HP3.out.only)
                        refine ⟨⟨HON.out.size, fun i o hB hi hc => (HON.out.block i (Array.getElem?_eq_some_iff.1 hi).1 (by omega)).trans hi⟩, HK0.out.trans (KpZ.of_only HON.out), ?_⟩
                        show NxAt W8 bl L (pre ++ [x]).length _
                        rw [List.length_append, HJL.out]
                        refine ⟨?_, HNO.out.trans HON.out⟩
                        show RowAt _ bl 1 (fun _ => .int .i64 (nx L (j + 1) : Nat))
                        rw [HNXT.out]
                        exact HP3.out.pg
                  case done1 =>
                    rintro D xs V hD hxs hI hDk
                    have hxl : xs.length = L.length := by
                      have := congrArg List.length hxs
                      simpa using this
                    rw [hxl] at hI
                    have HA9 := Lib.hid (HA8.out.more (Q' := fun k => k = bl) hI.only (fun k hk => by obtain ⟨a1, a2, a3⟩ := HBL.out; exact ⟨hk, by omega, by omega, fun hd => by have := a3 k hd; omega⟩) hDk hD (fun _ h => h))
                    have HNR := Lib.hid hI.row
                    have HREST := Lib.hid HTL.out.rest
                    have hle := HTL.out.le
                    have hDbl : bl < D := by omega
                    clear hsq hI hxs hxl hDk HA8 HNX HT1 HENT HTL
                    go_wp2_with (fail)
                    go_loopw [] (fun wr => ∃ n : Nat, nx L L.length ≤ n ∧ n ≤ 32 ∧ Hid (PgAt V bl n wr)) (fun wr => 32 - cntAt wr bl)
                    case atStart => exact ⟨nx L L.length, Nat.le_refl _, hle, Lib.hid ⟨HNR.out, Only.refl _ _⟩⟩
                    case round =>
                      obtain ⟨n, hn1, hn2, HP⟩ := hrel
                      have HLW := Lib.hid (HA9.out.only HP.out.only (fun k hk => by
                        obtain ⟨a1, a2, a3⟩ := HBL.out
                        refine ⟨hk, by omega, by omega, fun hd => ?_⟩
                        rcases List.mem_cons.1 hd with rfl | hd
                        · omega
                        · have := a3 k hd; omega))
                      have kn : wr.cell? ⟨bl, 0, none⟩ = some (.int .i64 n) := HP.out.pg.cell 0 (by decide)
                      have kf : wr.frozen? ⟨bl, 0, none⟩ = false := HP.out.pg.frozen 0
                      have HP3 := Lib.hid HP.out.step
                      by_cases hlq : n < 32
                      · have kw : wr.cell? ⟨wb, n, none⟩ = some (.int .i64 ((R) n)) := HLW.out.row.cell n hlq
                        rw [HREST.out n hn1 hlq] at kw
                        have kw : wr.cell? ⟨wb, n, none⟩ = some (.int .i64 0) := kw
                        have hn32 : (n : Int) < 32 := by omega
                        have HCA := Lib.hid (show 32 - cntAt (wr.setCell ⟨bl, 0, none⟩ (.int .i64 ((n : Int) + 1))) bl < 32 - cntAt wr bl from by
                          rw [cntAt_of kn, cntAt_of (k := n + 1) (HP3.out.pg.cell 0 (by decide))]
                          omega)
                        clear HLW
                        go_wp2_with (fail)
                        go_roundw
                        case rel => exact ⟨n + 1, by omega, by omega, HP3⟩
                        case measure => exact HCA.out
                      · obtain rfl : n = 32 := by omega
                        have HF := Lib.hid (show LvAt IsT w1 m wb (R) (D :: Ds) (fun _ => False) wr from HLW.out.add (Below.refl _ _) (fun _ h => h.elim))
                        clear HLW
                        go_wp2_with (fail)
                        first | exact ⟨len - (k + 1), by omega, k + 1, (R), D :: Ds, rfl, hlt, rfl, rfl, rfl, rfl, rfl, rfl, rfl, rfl, rfl, HF.out⟩ | exact ⟨len - (k + 1), by omega, k + 1, rfl, hlt, by omega, (R), D :: Ds, rfl, HF.out⟩
              · obtain ⟨P, rfl⟩ : ∃ P : Nat, p = P := ⟨p.toNat, by omega⟩
                have hpg : Pg (P : Int) := ⟨by omega, by omega⟩
                have hhiI : (P : Int) < 1024 := by omega
                have hP32 : P / 32 < 32 := by omega
                have hP32I : (P : Int) / 32 < 32 := by omega
                by_cases hlm : l = -1
                · subst hlm
                  as_aux_lemma =>
                    go_wp2_with (fail)
                    refine (setLeaf_mkp ok HA.out.mem (P : Int) (-1) 0 HPI.out (by omega) (by rw [if_pos rfl]) 0 (setR R (P / 32) 0) (if_pos hpg) (by rw [if_pos hpg, Int.toNat_natCast])).mono ?_
                    rintro e w5 ⟨rfl, hm, ho⟩
                    have hrow := (HA.out.turn ho).1
                    have kp : w5.cell? ⟨gp, op + k, none⟩ = some (.int .i64 (P : Int)) := HPAT.out w5 (HB1.out.trans (hm.mk.bel.mono HB1.out.size))
                    have kr : w5.cell? ⟨wb, P / 32, none⟩ = some (.int .i64 (R (P / 32))) := hrow.cell _ (by omega)
                    have kz := hrow.frozen (P / 32)
                    have HA5 := Lib.hid (HA.out.want (p := P / 32) (l := 0) (by omega) hm ho)
                    obtain ⟨W5, hW5⟩ : ∃ W5, w5.setCell ⟨wb, P / 32, none⟩ (.int .i64 0) = W5 := ⟨_, rfl⟩
                    have HA5 : Hid (LvAt IsT w1 m wb (setR R (P / 32) 0) Ds (fun _ => False) W5) := by rw [← hW5]; exact HA5
                    clear hm ho HA HBW kl hrow
                    have HALC := Lib.hid (show LvAt IsT w1 m wb (setR R (P / 32) 0) Ds (fun k => k = W5.heap.size) (W5.alloc (.cells #[.int .i64 0] 3)) from HA5.out.add ((Below.refl _ _).alloc (Nat.le_refl _) _) (fun k hk => .inr ⟨Nat.le_of_eq hk.symm, by rw [hk]; simp⟩))
                    have HN6 := Lib.hid (show RowAt (W5.alloc (.cells #[.int .i64 0] 3)) W5.heap.size 1 (fun _ => .int .i64 0) from RowAt.new W5 _ _ _ _ (fun i hi => by
                      obtain rfl : i = 0 := by omega
                      rfl))
                    have HBL := Lib.hid (show w1.heap.size ≤ W5.heap.size ∧ wb < W5.heap.size ∧ ∀ D ∈ Ds, D < W5.heap.size from ⟨HA5.out.bel.size, HA5.out.row.lt, fun D hD => (Array.getElem?_eq_some_iff.1 (HA5.out.ds D hD).1).1⟩)
                    go_wp2_with (fail)
                    clear hW5 kp kr kz
                    have HS6 := Lib.hid (show W5.heap.size < (W5.alloc (.cells #[.int .i64 0] 3)).heap.size from by simp)
                    generalize W5.alloc (.cells #[.int .i64 0] 3) = W6 at *
                    generalize W5.heap.size = bl at *
                    obtain ⟨X, hX, hXA, hX3, hX4, hX5⟩ := HALC.out.mem
                    refine (ok.leaves hX hXA).mono ?_
                    rintro e W7 ⟨g0, lb0, own0, rfl, hb, _, hnil0, _, _⟩
                    have HA7 := Lib.hid (HALC.out.later hb)
                    have HN7 := Lib.hid (HN6.out.later hb)
                    have HS7 := Lib.hid (Nat.lt_of_lt_of_le HS6.out hb.size)
                    clear hb HALC HN6 HS6 hX hXA hX3 hX4 hX5
                    go_wp2_with (fail)
                    clear hnil0
                    obtain ⟨X, hX, hXA, hX3, hX4, hX5⟩ := HA7.out.mem
                    refine (ok.leaves hX hXA).mono ?_
                    rintro e W8 ⟨g1, lb1, own1, rfl, hb, hent1, hnil1, hown1, hT1⟩
                    have HA8 := Lib.hid (HA7.out.later hb)
                    have HN8 := Lib.hid (HN7.out.later hb)
                    have HS8 := Lib.hid (Nat.lt_of_lt_of_le HS7.out hb.size)
                    have hs78 := hb.size
                    have HOWN := Lib.hid (show ∀ i, own1 i → i < W8.heap.size ∧ ¬ i = bl from fun i hi => by
                      obtain ⟨h1, h2⟩ := hown1 i hi
                      refine ⟨h2, fun e => ?_⟩
                      rcases h1 with h1 | h1
                      · exact (hX4 i h1).2 (.inr (.inr e))
                      · have := HS7.out
                        omega)
                    have HENT := Lib.hid hent1
                    obtain ⟨L, hL⟩ : ∃ L, leafL (setR R (P / 32) 0) 32 = L := ⟨_, rfl⟩
                    have HTL := Lib.hid (show TlR (setR R (P / 32) 0) 32 L from by rw [← hL]; exact leafL_tl _ 32)
                    rw [hL] at hT1
                    have HT1 := Lib.hid hT1
                    clear hb HA7 HN7 HS7 hX hXA hX3 hX4 hX5 hnil1 hown1 hent1 hT1 hL hs78
                    go_wp2_with (fail)
                    have hsz8 := HS8.out
                    have hsq := HT1.out.solo (q - 1) (by omega) (fun i => i = bl) (fun i hi => by omega) HOWN.out
                    have HNX := Lib.hid (show NxAt W8 bl L ([] : List (Fin L.length)).length W8 from ⟨HN8.out, Only.refl _ _⟩)
                    clear HN8 HOWN
                    refine (wpIn_wide (n := q)).1 ?_
                    refine range_o2 rfl h1 (gf := g1) (lb := lb1) (by simp [go_sem]) trivial HENT.out hsq (fun x => .int .i64 ((L[x.val]'x.isLt).1 : Nat)) (fun x => .int .i64 ((L[x.val]'x.isLt).2 : Nat)) (fun x => rfl) KpZ.trans (fun W l o o' _ _ _ => KpZ.put W l o') (fun pre W => NxAt W8 bl L pre.length W) (fun _ _ _ => False) (nx_own (by omega)) (fun _ _ _ _ _ h _ _ => h) HNX.out
                      12 13 ?assign1 ?body1 ?done1 (fun _ _ _ _ _ _ hIx _ => hIx.elim)
                    case assign1 =>
                      intro l' pre x V K hl' hI hK
                      have HK := Lib.hid hK
                      have HI := Lib.hid hI
                      clear hK hI hsq
                      gi_wp2_with (fail)
                      have h9 := HK.out V (KeepsFrom.refl _ _) HI.out (KpZ.of_below (Below.refl _ _))
                      simpa using h9
                    case body1 =>
                      rintro l' pre x U0 V hl' hI hk0 hlen2
                      obtain ⟨hxl, _⟩ := next_of_some hlen2
                      have HK0 := Lib.hid hk0
                      have hpl : pre.length < L.length := by rw [← hxl]; exact x.isLt
                      obtain ⟨y, hy⟩ : ∃ y, L[pre.length]'hpl = y := ⟨_, rfl⟩
                      have hq2 : L[x.val]'x.isLt = y := by rw [← hy]; exact getElem_congr_idx hxl
                      obtain ⟨v1, v2, v3, v4⟩ := HTL.out.val pre.length hpl
                      have vg := HTL.out.gap pre.length hpl
                      rw [hy] at v1 v2 v3 v4 vg
                      have HNXT := Lib.hid (show nx L (pre.length + 1) = y.1 + 1 from by rw [nx_succ hpl, hy])
                      obtain ⟨i, fr⟩ := y
                      dsimp only at v1 v2 v3 v4 vg HNXT
                      have HFR := Lib.hid v1
                      have HNE := Lib.hid v2
                      have HGAP := Lib.hid vg
                      have HNR := Lib.hid hI.row
                      have HNO := Lib.hid hI.only
                      have HLV := Lib.hid (HA8.out.only hI.only (fun k hk => by obtain ⟨a1, a2, a3⟩ := HBL.out; exact ⟨hk, by omega, by omega, fun hd => by have := a3 k hd; omega⟩))
                      have kn : V.cell? ⟨bl, 0, none⟩ = some (.int .i64 (nx L pre.length)) := hI.row.cell 0 (by decide)
                      have hblV : bl < V.heap.size := HNR.out.lt
                      simp only [hq2]
                      clear hsq hk0 hy hq2 hI hxl v1 v2 vg hlen2
                      generalize hjl : pre.length = j at *
                      have HJL := Lib.hid hjl
                      clear hjl
                      gi_wp2_with (fail)
                      simp only [List.setIfInBounds_toArray, List.set_cons_succ, List.set_cons_zero]
                      gi_loopw [] (fun wr => ∃ n : Nat, nx L j ≤ n ∧ n ≤ i ∧ Hid (PgAt V bl n wr)) (fun wr => i - cntAt wr bl)
                      case atStart => exact ⟨nx L j, Nat.le_refl _, v3, Lib.hid ⟨HNR.out, Only.refl _ _⟩⟩
                      case round =>
                        obtain ⟨n, hn1, hn2, HP⟩ := hrel
                        have HLW := Lib.hid (HLV.out.only HP.out.only (fun k hk => by obtain ⟨a1, a2, a3⟩ := HBL.out; exact ⟨hk, by omega, by omega, fun hd => by have := a3 k hd; omega⟩))
                        have kn : wr.cell? ⟨bl, 0, none⟩ = some (.int .i64 n) := HP.out.pg.cell 0 (by decide)
                        have kw : wr.cell? ⟨wb, n, none⟩ = some (.int .i64 ((setR R (P / 32) 0) n)) := HLW.out.row.cell n (by omega)
                        have kf : wr.frozen? ⟨bl, 0, none⟩ = false := HP.out.pg.frozen 0
                        have hn32 : (n : Int) < 32 := by omega
                        have hn31 : ¬ (31 : Int) < n := by omega
                        have HP3 := Lib.hid HP.out.step
                        by_cases hlq : n < i
                        · rw [HGAP.out n hn1 hlq] at kw
                          have kw : wr.cell? ⟨wb, n, none⟩ = some (.int .i64 0) := kw
                          have HCA := Lib.hid (show i - cntAt (wr.setCell ⟨bl, 0, none⟩ (.int .i64 ((n : Int) + 1))) bl < i - cntAt wr bl from by
                            rw [cntAt_of kn, cntAt_of (k := n + 1) (HP3.out.pg.cell 0 (by decide))]
                            omega)
                          clear HLW
                          gi_wp2_with (fail)
                          exact ⟨⟨n + 1, by omega, by omega, HP3⟩, HCA.out⟩
                        · obtain rfl : n = i := by omega
                          rw [← HFR.out] at kw
                          have hne : ((fr : Int) == 0) = false := by
                            have := HNE.out
                            rw [← HFR.out] at this
                            simp; omega
                          have hne2 : ¬ fr = 0 := by
                            have := HNE.out
                            rw [← HFR.out] at this
                            exact this
                          clear HLW
                          gi_wp2_with (fail)
                          have HON := Lib.hid (HP3.out.only)
                          refine ⟨⟨HON.out.size, fun i o hB hi hc => (HON.out.block i (Array.getElem?_eq_some_iff.1 hi).1 (by omega)).trans hi⟩, HK0.out.trans (KpZ.of_only HON.out), ?_⟩
                          show NxAt W8 bl L (pre ++ [x]).length _
                          rw [List.length_append, HJL.out]
                          refine ⟨?_, HNO.out.trans HON.out⟩
                          show RowAt _ bl 1 (fun _ => .int .i64 (nx L (j + 1) : Nat))
                          rw [HNXT.out]
                          exact HP3.out.pg
                    case done1 =>
                      rintro D xs V hD hxs hI hDk
                      have hxl : xs.length = L.length := by
                        have := congrArg List.length hxs
                        simpa using this
                      rw [hxl] at hI
                      have HA9 := Lib.hid (HA8.out.more (Q' := fun k => k = bl) hI.only (fun k hk => by obtain ⟨a1, a2, a3⟩ := HBL.out; exact ⟨hk, by omega, by omega, fun hd => by have := a3 k hd; omega⟩) hDk hD (fun _ h => h))
                      have HNR := Lib.hid hI.row
                      have HREST := Lib.hid HTL.out.rest
                      have hle := HTL.out.le
                      have hDbl : bl < D := by omega
                      clear hsq hI hxs hxl hDk HA8 HNX HT1 HENT HTL
                      go_wp2_with (fail)
                      go_loopw [] (fun wr => ∃ n : Nat, nx L L.length ≤ n ∧ n ≤ 32 ∧ Hid (PgAt V bl n wr)) (fun wr => 32 - cntAt wr bl)
                      case atStart => exact ⟨nx L L.length, Nat.le_refl _, hle, Lib.hid ⟨HNR.out, Only.refl _ _⟩⟩
                      case round =>
                        obtain ⟨n, hn1, hn2, HP⟩ := hrel
                        have HLW := Lib.hid (HA9.out.only HP.out.only (fun k hk => by
                          obtain ⟨a1, a2, a3⟩ := HBL.out
                          refine ⟨hk, by omega, by omega, fun hd => ?_⟩
                          rcases List.mem_cons.1 hd with rfl | hd
                          · omega
                          · have := a3 k hd; omega))
                        have kn : wr.cell? ⟨bl, 0, none⟩ = some (.int .i64 n) := HP.out.pg.cell 0 (by decide)
                        have kf : wr.frozen? ⟨bl, 0, none⟩ = false := HP.out.pg.frozen 0
                        have HP3 := Lib.hid HP.out.step
                        by_cases hlq : n < 32
                        · have kw : wr.cell? ⟨wb, n, none⟩ = some (.int .i64 ((setR R (P / 32) 0) n)) := HLW.out.row.cell n hlq
                          rw [HREST.out n hn1 hlq] at kw
                          have kw : wr.cell? ⟨wb, n, none⟩ = some (.int .i64 0) := kw
                          have hn32 : (n : Int) < 32 := by omega
                          have HCA := Lib.hid (show 32 - cntAt (wr.setCell ⟨bl, 0, none⟩ (.int .i64 ((n : Int) + 1))) bl < 32 - cntAt wr bl from by
                            rw [cntAt_of kn, cntAt_of (k := n + 1) (HP3.out.pg.cell 0 (by decide))]
                            omega)
                          clear HLW
                          go_wp2_with (fail)
                          go_roundw
                          case rel => exact ⟨n + 1, by omega, by omega, HP3⟩
                          case measure => exact HCA.out
                        · obtain rfl : n = 32 := by omega
                          have HF := Lib.hid (show LvAt IsT w1 m wb (setR R (P / 32) 0) (D :: Ds) (fun _ => False) wr from HLW.out.add (Below.refl _ _) (fun _ h => h.elim))
                          clear HLW
                          go_wp2_with (fail)
                          first | exact ⟨len - (k + 1), by omega, k + 1, (setR R (P / 32) 0), D :: Ds, rfl, hlt, rfl, rfl, rfl, rfl, rfl, rfl, rfl, rfl, rfl, HF.out⟩ | exact ⟨len - (k + 1), by omega, k + 1, rfl, hlt, by omega, (setR R (P / 32) 0), D :: Ds, rfl, HF.out⟩
                · obtain ⟨N, rfl⟩ : ∃ N : Nat, l = N := ⟨l.toNat, by omega⟩
                  have hN0 : ¬ (N : Int) < 0 := by omega
                  as_aux_lemma =>
                    go_wp2_with (fail)
                    refine (setLeaf_mkp ok HA.out.mem (P : Int) (N : Int) N HPI.out (by omega) (by rw [if_neg (by omega)]) 0 (setR R (P / 32) N) (if_pos hpg) (by rw [if_pos hpg, Int.toNat_natCast])).mono ?_
                    rintro e w5 ⟨rfl, hm, ho⟩
                    have hrow := (HA.out.turn ho).1
                    have kp : w5.cell? ⟨gp, op + k, none⟩ = some (.int .i64 (P : Int)) := HPAT.out w5 (HB1.out.trans (hm.mk.bel.mono HB1.out.size))
                    have kr : w5.cell? ⟨wb, P / 32, none⟩ = some (.int .i64 (R (P / 32))) := hrow.cell _ (by omega)
                    have kz := hrow.frozen (P / 32)
                    have HA5 := Lib.hid (HA.out.want (p := P / 32) (l := N) (by omega) hm ho)
                    obtain ⟨W5, hW5⟩ : ∃ W5, w5.setCell ⟨wb, P / 32, none⟩ (.int .i64 (N : Int)) = W5 := ⟨_, rfl⟩
                    have HA5 : Hid (LvAt IsT w1 m wb (setR R (P / 32) N) Ds (fun _ => False) W5) := by rw [← hW5]; exact HA5
                    clear hm ho HA HBW kl hrow
                    have HALC := Lib.hid (show LvAt IsT w1 m wb (setR R (P / 32) N) Ds (fun k => k = W5.heap.size) (W5.alloc (.cells #[.int .i64 0] 3)) from HA5.out.add ((Below.refl _ _).alloc (Nat.le_refl _) _) (fun k hk => .inr ⟨Nat.le_of_eq hk.symm, by rw [hk]; simp⟩))
                    have HN6 := Lib.hid (show RowAt (W5.alloc (.cells #[.int .i64 0] 3)) W5.heap.size 1 (fun _ => .int .i64 0) from RowAt.new W5 _ _ _ _ (fun i hi => by
                      obtain rfl : i = 0 := by omega
                      rfl))
                    have HBL := Lib.hid (show w1.heap.size ≤ W5.heap.size ∧ wb < W5.heap.size ∧ ∀ D ∈ Ds, D < W5.heap.size from ⟨HA5.out.bel.size, HA5.out.row.lt, fun D hD => (Array.getElem?_eq_some_iff.1 (HA5.out.ds D hD).1).1⟩)
                    go_wp2_with (fail)
                    clear hW5 kp kr kz
                    have HS6 := Lib.hid (show W5.heap.size < (W5.alloc (.cells #[.int .i64 0] 3)).heap.size from by simp)
                    generalize W5.alloc (.cells #[.int .i64 0] 3) = W6 at *
                    generalize W5.heap.size = bl at *
                    obtain ⟨X, hX, hXA, hX3, hX4, hX5⟩ := HALC.out.mem
                    refine (ok.leaves hX hXA).mono ?_
                    rintro e W7 ⟨g0, lb0, own0, rfl, hb, _, hnil0, _, _⟩
                    have HA7 := Lib.hid (HALC.out.later hb)
                    have HN7 := Lib.hid (HN6.out.later hb)
                    have HS7 := Lib.hid (Nat.lt_of_lt_of_le HS6.out hb.size)
                    clear hb HALC HN6 HS6 hX hXA hX3 hX4 hX5
                    go_wp2_with (fail)
                    clear hnil0
                    obtain ⟨X, hX, hXA, hX3, hX4, hX5⟩ := HA7.out.mem
                    refine (ok.leaves hX hXA).mono ?_
                    rintro e W8 ⟨g1, lb1, own1, rfl, hb, hent1, hnil1, hown1, hT1⟩
                    have HA8 := Lib.hid (HA7.out.later hb)
                    have HN8 := Lib.hid (HN7.out.later hb)
                    have HS8 := Lib.hid (Nat.lt_of_lt_of_le HS7.out hb.size)
                    have hs78 := hb.size
                    have HOWN := Lib.hid (show ∀ i, own1 i → i < W8.heap.size ∧ ¬ i = bl from fun i hi => by
                      obtain ⟨h1, h2⟩ := hown1 i hi
                      refine ⟨h2, fun e => ?_⟩
                      rcases h1 with h1 | h1
                      · exact (hX4 i h1).2 (.inr (.inr e))
                      · have := HS7.out
                        omega)
                    have HENT := Lib.hid hent1
                    obtain ⟨L, hL⟩ : ∃ L, leafL (setR R (P / 32) N) 32 = L := ⟨_, rfl⟩
                    have HTL := Lib.hid (show TlR (setR R (P / 32) N) 32 L from by rw [← hL]; exact leafL_tl _ 32)
                    rw [hL] at hT1
                    have HT1 := Lib.hid hT1
                    clear hb HA7 HN7 HS7 hX hXA hX3 hX4 hX5 hnil1 hown1 hent1 hT1 hL hs78
                    go_wp2_with (fail)
                    have hsz8 := HS8.out
                    have hsq := HT1.out.solo (q - 1) (by omega) (fun i => i = bl) (fun i hi => by omega) HOWN.out
                    have HNX := Lib.hid (show NxAt W8 bl L ([] : List (Fin L.length)).length W8 from ⟨HN8.out, Only.refl _ _⟩)
                    clear HN8 HOWN
                    refine (wpIn_wide (n := q)).1 ?_
                    refine range_o2 rfl h1 (gf := g1) (lb := lb1) (by simp [go_sem]) trivial HENT.out hsq (fun x => .int .i64 ((L[x.val]'x.isLt).1 : Nat)) (fun x => .int .i64 ((L[x.val]'x.isLt).2 : Nat)) (fun x => rfl) KpZ.trans (fun W l o o' _ _ _ => KpZ.put W l o') (fun pre W => NxAt W8 bl L pre.length W) (fun _ _ _ => False) (nx_own (by omega)) (fun _ _ _ _ _ h _ _ => h) HNX.out
                      12 13 ?assign1 ?body1 ?done1 (fun _ _ _ _ _ _ hIx _ => hIx.elim)
                    case assign1 =>
                      intro l' pre x V K hl' hI hK
                      have HK := Lib.hid hK
                      have HI := Lib.hid hI
                      clear hK hI hsq
                      gi_wp2_with (fail)
                      have h9 := HK.out V (KeepsFrom.refl _ _) HI.out (KpZ.of_below (Below.refl _ _))
                      simpa using h9
                    case body1 =>
                      rintro l' pre x U0 V hl' hI hk0 hlen2
                      obtain ⟨hxl, _⟩ := next_of_some hlen2
                      have HK0 := Lib.hid hk0
                      have hpl : pre.length < L.length := by rw [← hxl]; exact x.isLt
                      obtain ⟨y, hy⟩ : ∃ y, L[pre.length]'hpl = y := ⟨_, rfl⟩
                      have hq2 : L[x.val]'x.isLt = y := by rw [← hy]; exact getElem_congr_idx hxl
                      obtain ⟨v1, v2, v3, v4⟩ := HTL.out.val pre.length hpl
                      have vg := HTL.out.gap pre.length hpl
                      rw [hy] at v1 v2 v3 v4 vg
                      have HNXT := Lib.hid (show nx L (pre.length + 1) = y.1 + 1 from by rw [nx_succ hpl, hy])
                      obtain ⟨i, fr⟩ := y
                      dsimp only at v1 v2 v3 v4 vg HNXT
                      have HFR := Lib.hid v1
                      have HNE := Lib.hid v2
                      have HGAP := Lib.hid vg
                      have HNR := Lib.hid hI.row
                      have HNO := Lib.hid hI.only
                      have HLV := Lib.hid (HA8.out.only hI.only (fun k hk => by obtain ⟨a1, a2, a3⟩ := HBL.out; exact ⟨hk, by omega, by omega, fun hd => by have := a3 k hd; omega⟩))
                      have kn : V.cell? ⟨bl, 0, none⟩ = some (.int .i64 (nx L pre.length)) := hI.row.cell 0 (by decide)
                      have hblV : bl < V.heap.size := HNR.out.lt
                      simp only [hq2]
                      clear hsq hk0 hy hq2 hI hxl v1 v2 vg hlen2
                      generalize hjl : pre.length = j at *
                      have HJL := Lib.hid hjl
                      clear hjl
                      gi_wp2_with (fail)
                      simp only [List.setIfInBounds_toArray, List.set_cons_succ, List.set_cons_zero]
                      gi_loopw [] (fun wr => ∃ n : Nat, nx L j ≤ n ∧ n ≤ i ∧ Hid (PgAt V bl n wr)) (fun wr => i - cntAt wr bl)
                      case atStart => exact ⟨nx L j, Nat.le_refl _, v3, Lib.hid ⟨HNR.out, Only.refl _ _⟩⟩
                      case round =>
                        obtain ⟨n, hn1, hn2, HP⟩ := hrel
                        have HLW := Lib.hid (HLV.out.only HP.out.only (fun k hk => by obtain ⟨a1, a2, a3⟩ := HBL.out; exact ⟨hk, by omega, by omega, fun hd => by have := a3 k hd; omega⟩))
                        have kn : wr.cell? ⟨bl, 0, none⟩ = some (.int .i64 n) := HP.out.pg.cell 0 (by decide)
                        have kw : wr.cell? ⟨wb, n, none⟩ = some (.int .i64 ((setR R (P / 32) N) n)) := HLW.out.row.cell n (by omega)
                        have kf : wr.frozen? ⟨bl, 0, none⟩ = false := HP.out.pg.frozen 0
                        have hn32 : (n : Int) < 32 := by omega
                        have hn31 : ¬ (31 : Int) < n := by omega
                        have HP3 := Lib.hid HP.out.step
                        by_cases hlq : n < i
                        · rw [HGAP.out n hn1 hlq] at kw
                          have kw : wr.cell? ⟨wb, n, none⟩ = some (.int .i64 0) := kw
                          have HCA := Lib.hid (show i - cntAt (wr.setCell ⟨bl, 0, none⟩ (.int .i64 ((n : Int) + 1))) bl < i - cntAt wr bl from by
                            rw [cntAt_of kn, cntAt_of (k := n + 1) (HP3.out.pg.cell 0 (by decide))]
                            omega)
                          clear HLW
                          gi_wp2_with (fail)
                          exact ⟨⟨n + 1, by omega, by omega, HP3⟩, HCA.out⟩
                        · obtain rfl : n = i := by omega
                          rw [← HFR.out] at kw
                          have hne : ((fr : Int) == 0) = false := by
                            have := HNE.out
                            rw [← HFR.out] at this
                            simp; omega
                          have hne2 : ¬ fr = 0 := by
                            have := HNE.out
                            rw [← HFR.out] at this
                            exact this
                          clear HLW
                          gi_wp2_with (fail)
                          have HON := Lib.hid (HP3.out.only)
                          refine ⟨⟨HON.out.size, fun i o hB hi hc => (HON.out.block i (Array.getElem?_eq_some_iff.1 hi).1 (by omega)).trans hi⟩, HK0.out.trans (KpZ.of_only HON.out), ?_⟩
                          show NxAt W8 bl L (pre ++ [x]).length _
                          rw [List.length_append, HJL.out]
                          refine ⟨?_, HNO.out.trans HON.out⟩
                          show RowAt _ bl 1 (fun _ => .int .i64 (nx L (j + 1) : Nat))
                          rw [HNXT.out]
                          exact HP3.out.pg
                    case done1 =>
                      rintro D xs V hD hxs hI hDk
                      have hxl : xs.length = L.length := by
                        have := congrArg List.length hxs
                        simpa using this
                      rw [hxl] at hI
                      have HA9 := Lib.hid (HA8.out.more (Q' := fun k => k = bl) hI.only (fun k hk => by obtain ⟨a1, a2, a3⟩ := HBL.out; exact ⟨hk, by omega, by omega, fun hd => by have := a3 k hd; omega⟩) hDk hD (fun _ h => h))
                      have HNR := Lib.hid hI.row
                      have HREST := Lib.hid HTL.out.rest
                      have hle := HTL.out.le
                      have hDbl : bl < D := by omega
                      clear hsq hI hxs hxl hDk HA8 HNX HT1 HENT HTL
                      go_wp2_with (fail)
                      go_loopw [] (fun wr => ∃ n : Nat, nx L L.length ≤ n ∧ n ≤ 32 ∧ Hid (PgAt V bl n wr)) (fun wr => 32 - cntAt wr bl)
                      case atStart => exact ⟨nx L L.length, Nat.le_refl _, hle, Lib.hid ⟨HNR.out, Only.refl _ _⟩⟩
                      case round =>
                        obtain ⟨n, hn1, hn2, HP⟩ := hrel
                        have HLW := Lib.hid (HA9.out.only HP.out.only (fun k hk => by
                          obtain ⟨a1, a2, a3⟩ := HBL.out
                          refine ⟨hk, by omega, by omega, fun hd => ?_⟩
                          rcases List.mem_cons.1 hd with rfl | hd
                          · omega
                          · have := a3 k hd; omega))
                        have kn : wr.cell? ⟨bl, 0, none⟩ = some (.int .i64 n) := HP.out.pg.cell 0 (by decide)
                        have kf : wr.frozen? ⟨bl, 0, none⟩ = false := HP.out.pg.frozen 0
                        have HP3 := Lib.hid HP.out.step
                        by_cases hlq : n < 32
                        · have kw : wr.cell? ⟨wb, n, none⟩ = some (.int .i64 ((setR R (P / 32) N) n)) := HLW.out.row.cell n hlq
                          rw [HREST.out n hn1 hlq] at kw
                          have kw : wr.cell? ⟨wb, n, none⟩ = some (.int .i64 0) := kw
                          have hn32 : (n : Int) < 32 := by omega
                          have HCA := Lib.hid (show 32 - cntAt (wr.setCell ⟨bl, 0, none⟩ (.int .i64 ((n : Int) + 1))) bl < 32 - cntAt wr bl from by
                            rw [cntAt_of kn, cntAt_of (k := n + 1) (HP3.out.pg.cell 0 (by decide))]
                            omega)
                          clear HLW
                          go_wp2_with (fail)
                          go_roundw
                          case rel => exact ⟨n + 1, by omega, by omega, HP3⟩
                          case measure => exact HCA.out
                        · obtain rfl : n = 32 := by omega
                          have HF := Lib.hid (show LvAt IsT w1 m wb (setR R (P / 32) N) (D :: Ds) (fun _ => False) wr from HLW.out.add (Below.refl _ _) (fun _ h => h.elim))
                          clear HLW
                          go_wp2_with (fail)
                          first | exact ⟨len - (k + 1), by omega, k + 1, (setR R (P / 32) N), D :: Ds, rfl, hlt, rfl, rfl, rfl, rfl, rfl, rfl, rfl, rfl, rfl, HF.out⟩ | exact ⟨len - (k + 1), by omega, k + 1, rfl, hlt, by omega, (setR R (P / 32) N), D :: Ds, rfl, HF.out⟩
    · obtain rfl : k = len := by omega
      go_wp2_with (fail)
      refine (known_any ok _).mono ?_
      rintro e w4 ⟨rfl, hb⟩
      have HA4 := Lib.hid (HA.out.later hb)
      have HRC4 := Lib.hid (HRC1.out.below HA4.out.bel hsz1)
      clear hb HA
      have cr : w4.cell? ⟨w.heap.size, 0, none⟩ = some (.bool false) := HRC4.out.cell 0 (by decide)
      have fr : w4.frozen? ⟨w.heap.size, 0, none⟩ = false := HRC4.out.frozen 0
      have HRC5 := Lib.hid (HRC4.out.setCell 0 (.bool true))
      have HB5 := Lib.hid ((HB1.out.trans (HA4.out.bel.mono HB1.out.size)).setCell (p := ⟨w.heap.size, 0, none⟩) (Nat.le_refl _) (.bool true))
      go_wp2_with (fail)
      have hDs : ∀ D ∈ Ds, w.heap.size ≠ D := fun D hD e => by have := (HA4.out.ds D hD).2; omega
      refine leaves_many Ds _ HA4.out.nd (fun D hD => ?_) (fun W' ho2 hs2 => ⟨.bool true, ?_, rfl, ?_⟩)
      · rw [Below.heap_setCell _ _ _ _ (fun e => hDs D hD e.symm)]
        exact (HA4.out.ds D hD).1
      · have hc := ho2.cell (b := w.heap.size) (o := 0) (v := .bool true) (fun hD => hDs _ hD rfl) (HRC5.out.cell 0 (by decide))
        simp [results, Try.f5, go_sem, hc]
      · exact ho2.below HB5.out HB5.out.size (fun D hD => by have := (HA4.out.ds D hD).2; omega)
  · by_cases hl1 : 60 < len
    · have hl1I : (60 : Int) < len := by omega
      clear hl
      go_wp2_with (fail)
      have HB2 := Lib.hid (HB1.out.trans (HK2.out.bel.mono HB1.out.size))
      clear HK2
      refine (known_any ok w2).mono ?_
      rintro e w4 ⟨rfl, hb⟩
      have HB4 := Lib.hid (HB2.out.trans (hb.mono HB2.out.size))
      have HRC4 := Lib.hid (HRC2.out.later hb)
      clear hb
      have cr : w4.cell? ⟨w.heap.size, 0, none⟩ = some (.bool false) := HRC4.out.cell 0 (by decide)
      have fr : w4.frozen? ⟨w.heap.size, 0, none⟩ = false := HRC4.out.frozen 0
      have HRC5 := Lib.hid (HRC4.out.setCell 0 (.bool true))
      have HB5 := Lib.hid (HB4.out.setCell (p := ⟨w.heap.size, 0, none⟩) (Nat.le_refl _) (.bool true))
      go_wp2_with (fail)
      refine ⟨.bool true, ?_, rfl, HB5.out⟩
      have hc := HRC5.out.cell 0 (by decide)
      simp [results, Try.f5, go_sem, hc, updV]
    · have hl1I : ¬ (60 : Int) < len := by omega
      have hl2I : (len2 : Int) < len := by omega
      clear hl
      go_wp2_with (fail)
      have HB2 := Lib.hid (HB1.out.trans (HK2.out.bel.mono HB1.out.size))
      clear HK2
      refine (known_any ok w2).mono ?_
      rintro e w4 ⟨rfl, hb⟩
      have HB4 := Lib.hid (HB2.out.trans (hb.mono HB2.out.size))
      have HRC4 := Lib.hid (HRC2.out.later hb)
      clear hb
      have cr : w4.cell? ⟨w.heap.size, 0, none⟩ = some (.bool false) := HRC4.out.cell 0 (by decide)
      have fr : w4.frozen? ⟨w.heap.size, 0, none⟩ = false := HRC4.out.frozen 0
      have HRC5 := Lib.hid (HRC4.out.setCell 0 (.bool true))
      have HB5 := Lib.hid (HB4.out.setCell (p := ⟨w.heap.size, 0, none⟩) (Nat.le_refl _) (.bool true))
      go_wp2_with (fail)
      refine ⟨.bool true, ?_, rfl, HB5.out⟩
      have hc := HRC5.out.cell 0 (by decide)
      simp [results, Try.f5, go_sem, hc, updV]
theorem lawTLeaves_any (a : Option Addr) (len cap : Nat) (z : Nat → Int) (a2 : Option Addr) (len2 cap2 : Nat) (z2 : Nat → Int) (w : World) (hZ : IntsIn w a len z) (hO : IntsIn w a2 len2 z2) :
    Calls Try.prog 5 #[.slice a len cap, .slice a2 len2 cap2] w fun e w' => e = .returned (.bool true) ∧ Below w.heap.size w w' :=
  callsIn_wide.1 (lawTLeaves_in ok 8 (Nat.le_refl _) a len cap z a2 len2 cap2 z2 w hZ hO)
end
end Go.Proofs.Ytnjdcgjaffageaa
