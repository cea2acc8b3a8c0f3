/-
  cache's document: Drop.
-/
import Derived.Test.YtlimbcpghfddkaaCaRefT
import Derived.Test.YtlimbcpghfddkaaLexApp
namespace Go.Proofs.Ytlimbcpghfddkaa
open Go.RowKit Go

theorem infoPlace : (Try.prog.info? 70).map (fun i => (i.zero, i.size, i.bytes)) = some (some (.agg #[.int .i64 0, .pointer none]), 2, 16) := by kernel_rfl
theorem sizePlace (w : World) : (sizeOf 70).run Try.prog w = .ok 2 w := by kernel_rfl
theorem owns_facts {w : World} {base n s c : Nat} {T : TypeId} {a : Option Addr} {xs : List Value} (h : w.ownsRow base T s (.slice a n c) n xs) : n ≤ c ∧ ∀ k, a = some ⟨k, 0, none⟩ → base ≤ k ∧ k < w.heap.size := by
  refine ⟨?_, fun k hk => h.lt k (by rw [hk]; simp [Value.ownBlock])⟩
  rcases h.2 with ⟨e, hl⟩ | ⟨g, cap, cur, e, _, _, hcap, _⟩
  · rw [hl]; exact Nat.zero_le _
  · injection e with _ _ e3
    rw [e3]; exact hcap
section
variable {w W : World} {D D' : DC} {A A' : Ca} {x : Int}
theorem plsR_len (g : Int → SD) (L : List Pl) : (plsR g L).length = L.length := by unfold plsR; rw [List.length_map]
theorem DAt.part (R : DAt w D A) {b : Nat} (ha : D.a = some ⟨b, 0, none⟩) : ∀ j u, (recV encP (plsR D.g A.L))[j]? = some u → w.cell? ⟨b, j, none⟩ = some u := fun j u hj => by
  have hlt := (List.getElem?_eq_some_iff.1 hj).1
  rw [recV_len encP_len] at hlt
  obtain ⟨g, e, _, _, B, t, hB, hx⟩ := R.lst (by omega)
  rw [ha] at e
  injection e with e
  injection e with e _ _
  subst e
  rw [cell_of_row _ _ _ _ _ _ hB, hx _ hlt]
  exact hj
/-- The list laid anew, without one slab. -/
theorem DAt.cut (R : DAt w D A) {W3 : World} (hb : Below w.heap.size w W3) {a3 : Option Addr} {c3 : Nat} (hown : W3.ownsRow w.heap.size 70 2 (.slice a3 (cutL A.L x).length c3) (cutL A.L x).length (recV encP (plsR D.g (cutL A.L x)))) :
    DTurn w D A noB (fun x => (D.g x).b) ⟨D.d, a3, c3, D.g⟩ (A.cutted x) (W3.setCell ⟨D.d, 2, none⟩ (.slice a3 (cutL A.L x).length c3)) := by
  have hst := Only.setCell (S := fun k => k = D.d) W3 ⟨D.d, 2, none⟩ rfl (.slice a3 (cutL A.L x).length c3)
  obtain ⟨h1, h2⟩ := owns_facts hown
  have hd := R.row.lt
  have hall : ∀ k, famB SD.all D.g (cutL A.L x) k → famB SD.all D.g A.L k := fun k hk => famB_sub (fun p hp => (mem_cutL.1 hp).1) hk
  have hfam : Fam DsAt SD.all (W3.setCell ⟨D.d, 2, none⟩ (.slice a3 (cutL A.L x).length c3)) (fun k => k = D.d ∨ a3 = some ⟨k, 0, none⟩) D.g (cutL A.L x) := by
    refine (((R.fam.later famD hb).sub (fun p hp => (mem_cutL.1 hp).1)).only famD hst (fun k hk e => ?_)).head (fun k hk => ?_)
    · obtain ⟨p, hp, hk⟩ := hall k hk
      exact R.fam.off p hp k hk (.inl e)
    · rcases hk with hk | hk
      · exact .inl (.inl hk)
      · right
        intro hf
        have := R.lt k (.inr (hall k hf))
        have := (h2 k hk).1
        omega
  have hr : RecsAt W3 0 a3 encP 2 (plsR D.g (cutL A.L x)) := by
    have h := hown
    rw [← plsR_len D.g (cutL A.L x)] at h
    obtain ⟨a, c, e, h3⟩ := RecsAt.of_owns (B := w.heap.size) (enc := encP) (L := plsR D.g (cutL A.L x)) h
    injection e with e _ _
    subst e
    exact h3.base (Nat.zero_le _)
  refine ⟨⟨((R.row.later hb).setCell 2 _).ext (fun i hi => ?_), hr.only hst (fun g hg e => by have := (h2 g hg).1; omega), h1, fun k hk => by rw [show (W3.setCell ⟨D.d, 2, none⟩ (.slice a3 (cutL A.L x).length c3)).heap.size = W3.heap.size by simp]; exact (h2 k hk).2, fun (e : a3 = some ⟨D.d, 0, none⟩) => by have := (h2 _ e).1; omega, hfam, R.inv.cutted⟩, rfl,
    (Only.of_below hb).trans (hst.mono (fun k hk => .inl (.inl (.inl hk)))), fun k hk => ?_, fun _ => rfl⟩
  · unfold updV daV
    rcases (show i = 0 ∨ i = 1 ∨ i = 2 by omega) with rfl | rfl | rfl <;> rfl
  · rcases hk with (hk | hk) | hk
    · exact .inl (.inl (.inl hk))
    · exact .inr (.inr (h2 k hk).1)
    · exact .inl (.inr (hall k hk))
/-- The slab's bytes are aside of it then. -/
theorem DAt.cut_off (R : DAt w D A) {a3 : Option Addr} {c3 : Nat} (h2 : ∀ k, a3 = some ⟨k, 0, none⟩ → w.heap.size ≤ k) {S : Sl} (hf : findL A.L x = some S) : ¬ (DC.mk D.d a3 c3 D.g).all (cutL A.L x) (D.g x).b := by
  have hm := findL_mem hf
  have hb : SD.all (D.g x) (D.g x).b := .inr (.inl rfl)
  rintro ((h | h) | ⟨p, hp, h⟩)
  · exact R.fam.off _ hm _ hb (.inl h)
  · have := h2 _ h
    have := R.lt _ (.inr ⟨_, hm, hb⟩)
    omega
  · exact R.fam.dis _ hm p (mem_cutL.1 hp).1 (Ne.symm (mem_cutL.1 hp).2) _ hb h
def DPostD (w : World) (D : DC) (A : Ca) (x : Int) (q : Int × Ca) (e : Ending) (w' : World) : Prop :=
  e = .returned (.int .i64 q.1) ∧ ∃ D', DTurn w D A noB (fun x => (D.g x).b) D' q.2 w' ∧ (q.1 = 0 → ∀ S, findL A.L x = some S → ¬ D'.all q.2.L (D.g x).b) ∧ Only (fun k => k = D.d) w w'
set_option maxRecDepth 100000 in
set_option maxHeartbeats 8000000 in
theorem ddrop_any (R : DAt w D A) (hl : A.L.length ≤ 1000) (x : Int) : Calls Try.prog 20 #[.pointer (some ⟨D.d, 0, none⟩), .int .i64 x] w (DPostD w D A x (A.drop x)) := by
  obtain ⟨i0, hi, hz0, hz1, hz2⟩ := info_parts infoPlace
  have c2 := R.c2
  have HR := Lib.hid R
  clear R
  go_enter Try.func20, Try.ntmps20
  go_wp2_with (fail)
  go_loop [5] (fun i => ∃ k : Nat, k ≤ A.L.length ∧ i = .int .i64 k ∧ ∀ j (h : j < A.L.length), j < k → A.L[j].fr ≠ x) (fun i => A.L.length - (intOf i).toNat)
  case atStart => exact ⟨0, Nat.zero_le _, rfl, fun j _ h => absurd h (Nat.not_lt_zero _)⟩
  case round =>
    obtain ⟨k, hk, rfl, hn⟩ := hrel
    have HN := Lib.hid hn
    clear hn
    by_cases hlt : k < A.L.length
    · obtain ⟨b, ha, k0, k1, hS, hI⟩ := HR.out.place hlt
      have hltI : (k : Int) < (A.L.length : Int) := by omega
      rw [ha] at c2
      have HA := Lib.hid ha
      by_cases hx : A.L[k].fr = x
      · have HF := Lib.hid (show findL A.L x = some A.L[k].S by rw [← hx]; exact findL_at HR.out.inv.rise hlt)
        have hC := cutL_at HR.out.inv.rise hlt
        rw [hx] at k0 k1 hS hC
        have HC := Lib.hid hC
        have c3 : w.cell? ⟨(D.g x).r, 3, none⟩ = some (.int .i64 A.L[k].S.n) := hS.c3
        have c4 := hS.c4
        obtain ⟨ca, cc, hcv, _, _⟩ := hS.chn
        rw [hcv] at c4
        have hle := hI.len
        clear hS hI hcv ha hx hC HN
        by_cases hb : A.L[k].S.ch.length = A.L[k].S.n
        · have HZ := Lib.hid (show A.drop x = (0, A.cutted x) by unfold Ca.drop; rw [HF.out]; exact if_pos hb)
          have hbI : ¬ (A.L[k].S.ch.length : Int) < (A.L[k].S.n : Int) := by omega
          clear hb hle
          generalize A.L[k].S.ch.length = n1 at *
          generalize A.L[k].S.n = n2 at *
          generalize (D.g x).r = rq at *
          go_wp2_with (fail)
          go_quiet (fail)
          have HB1 := Lib.hid (below_drewN (Below.refl w.heap.size w) nq)
          clear c2 c3 c4 k0 k1
          generalize w.drewN nq = w1 at *
          have HR1 := Lib.hid (HR.out.later HB1.out)
          have c2 := HR1.out.c2
          rw [HA.out] at c2
          have hnc := HR1.out.cap
          have HCE := Lib.hid (HR1.out.part HA.out)
          have L1 := Lib.hid (show ∀ W, Kept w1.heap.size w1 W → (loadVar 63 ⟨D.d, 2, none⟩).run Try.prog W = .ok (.slice (some ⟨b, 0, none⟩) A.L.length D.c) W from
            fun W hW => run_loadVar_cell (fun _ => by kernel_rfl) (by rw [(HR1.out.later hW.below).c2, HA.out]))
          have S1 := Lib.hid (fun W (_ : Kept w1.heap.size w1 W) => run_sub_to (P := Try.prog) Try.underlying63 sizePlace b 0 A.L.length D.c k (by omega) W)
          obtain ⟨A2, hA2, hS2⟩ : ∃ A2 : Addr, (0 < A.L.length - (k + 1) → A2 = ⟨b, (k + 1) * 2, none⟩) ∧ ∀ W, Kept w1.heap.size w1 W → (Instr.sliceAt 63 (.slice (some ⟨b, 0, none⟩) A.L.length D.c) (some (.int .i64 ((k : Int) + 1))) none none).run Try.prog W = .ok (.slice (some A2) (A.L.length - (k + 1)) (D.c - (k + 1))) W :=
            ⟨_, fun h => by rw [if_neg (by omega), Nat.zero_add], fun W _ => run_sub_from (P := Try.prog) Try.underlying63 sizePlace b 0 A.L.length D.c (k + 1) (by omega) W⟩
          have S2 := Lib.hid hS2
          have HA2 := Lib.hid hA2
          clear hS2 hA2 hnc
          go_wp2_with (fail)
          refine wp_region_lexF (Kept w1.heap.size w1) [(0, false), (2, false), (3, false), (4, false), (5, false), (6, false), (7, false), (9, false), (10, false), (11, false), (12, false), (13, false), (14, false), (15, false), (1, true), (8, true), (16, true), (17, false), (18, false)] 19
            (by kernel_rfl) (by kernel_rfl) rfl (by kernel_rfl) (Below.refl _ w1).drew ?_
          intro W0 hW0 hK0
          clear hW0 c2
          refine lexH_yieldE rfl rfl ?_
          apply Exists.intro
          refine ⟨fun W hW => ?_, ?_⟩
          focus (go_simp; exact rfl)
          simp only [List.getElem_toArray, List.getElem_cons_zero, Act.put, List.setIfInBounds_toArray, List.set_cons_zero, List.set_cons_succ]
          refine lexH_yieldE rfl rfl ?_
          apply Exists.intro
          refine ⟨fun W hW => ?_, ?_⟩
          focus (go_simp; exact rfl)
          simp only [List.getElem_toArray, List.getElem_cons_succ, List.getElem_cons_zero, Act.put, List.setIfInBounds_toArray, List.set_cons_zero, List.set_cons_succ]
          refine lexH_yieldE rfl rfl ?_
          apply Exists.intro
          refine ⟨fun W hW => ?_, ?_⟩
          focus (go_simp; exact rfl)
          simp only [List.getElem_toArray, List.getElem_cons_succ, List.getElem_cons_zero, Act.put, List.setIfInBounds_toArray, List.set_cons_zero, List.set_cons_succ]
          refine lexH_yieldE rfl rfl ?_
          apply Exists.intro
          refine ⟨fun W hW => ?_, ?_⟩
          focus (go_simp; exact rfl)
          simp only [List.getElem_toArray, List.getElem_cons_succ, List.getElem_cons_zero, Act.put, List.setIfInBounds_toArray, List.set_cons_zero, List.set_cons_succ]
          refine lexH_load rfl rfl _ _ rfl rfl L1.out ?_
          simp only [List.getElem_toArray, List.getElem_cons_succ, List.getElem_cons_zero, Act.put, List.setIfInBounds_toArray, List.set_cons_zero, List.set_cons_succ]
          refine lexH_yieldE rfl rfl ?_
          apply Exists.intro
          refine ⟨fun W hW => ?_, ?_⟩
          focus (go_simp; exact rfl)
          simp only [List.getElem_toArray, List.getElem_cons_succ, List.getElem_cons_zero, Act.put, List.setIfInBounds_toArray, List.set_cons_zero, List.set_cons_succ]
          refine lexH_slice rfl rfl _ _ _ _ _ rfl S1.out ?_
          simp only [List.getElem_toArray, List.getElem_cons_succ, List.getElem_cons_zero, Act.put, List.setIfInBounds_toArray, List.set_cons_zero, List.set_cons_succ]
          refine lexH_yieldE rfl rfl ?_
          apply Exists.intro
          refine ⟨fun W hW => ?_, ?_⟩
          focus (go_simp; exact rfl)
          simp only [List.getElem_toArray, List.getElem_cons_succ, List.getElem_cons_zero, Act.put, List.setIfInBounds_toArray, List.set_cons_zero, List.set_cons_succ]
          refine lexH_yieldE rfl rfl ?_
          apply Exists.intro
          refine ⟨fun W hW => ?_, ?_⟩
          focus (go_simp; exact rfl)
          simp only [List.getElem_toArray, List.getElem_cons_succ, List.getElem_cons_zero, Act.put, List.setIfInBounds_toArray, List.set_cons_zero, List.set_cons_succ]
          refine lexH_yieldE rfl rfl ?_
          apply Exists.intro
          refine ⟨fun W hW => ?_, ?_⟩
          focus (go_simp; exact rfl)
          simp only [List.getElem_toArray, List.getElem_cons_succ, List.getElem_cons_zero, Act.put, List.setIfInBounds_toArray, List.set_cons_zero, List.set_cons_succ]
          refine lexH_load rfl rfl _ _ rfl rfl L1.out ?_
          simp only [List.getElem_toArray, List.getElem_cons_succ, List.getElem_cons_zero, Act.put, List.setIfInBounds_toArray, List.set_cons_zero, List.set_cons_succ]
          refine lexH_yieldE rfl rfl ?_
          apply Exists.intro
          refine ⟨fun W hW => ?_, ?_⟩
          focus (go_simp; exact rfl)
          simp only [List.getElem_toArray, List.getElem_cons_succ, List.getElem_cons_zero, Act.put, List.setIfInBounds_toArray, List.set_cons_zero, List.set_cons_succ]
          refine lexH_yieldE rfl rfl ?_
          apply Exists.intro
          refine ⟨fun W hW => ?_, ?_⟩
          focus (go_simp; exact rfl)
          simp only [List.getElem_toArray, List.getElem_cons_succ, List.getElem_cons_zero, Act.put, List.setIfInBounds_toArray, List.set_cons_zero, List.set_cons_succ]
          rw [show IntKind.i64.wrap ((k : Int) + 1) = (k : Int) + 1 by rw [IntKind.wrap_i64]; omega]
          refine lexH_slice rfl rfl _ _ _ _ _ rfl S2.out ?_
          simp only [List.getElem_toArray, List.getElem_cons_succ, List.getElem_cons_zero, Act.put, List.setIfInBounds_toArray, List.set_cons_zero, List.set_cons_succ]
          refine lexH_eff rfl rfl ?_
          unfold Oper.wp
          go_simp
          have HK1 := Lib.hid (hK0.below.alloc hK0.below.size (.cells #[] 70))
          have HO1 := Lib.hid (World.ownsRow_made W0 (e := 70) (base := w1.heap.size) (size := 2) #[] 0 hK0.below.size (Nat.zero_le _) (by simp))
          refine ⟨HK1.out, ?_⟩
          clear hK0
          generalize W0.alloc (.cells #[] 70) = W1 at HK1 HO1 ⊢
          generalize W0.heap.size = b1 at HO1 ⊢
          refine lexH_append_src _ rfl rfl _ _ 63 rfl w1.heap.size 70 i0 _ 2 16 Try.underlying63 hi hz0 hz1 hz2 rfl (by decide) _ _ _ HO1.out HK1.out.size (some ⟨b, 0, none⟩) k D.c (recV encP ((plsR D.g A.L).take k)) rfl rfl ?q1 ?q2 (recV_one encP_one _) ?q3 (by decide) ?_
          case q1 => rw [recV_len encP_len, List.length_take, plsR_len, Nat.min_eq_left (by omega)]
          case q2 =>
            refine fun _ => ⟨_, rfl, fun j u hj => ?_⟩
            have hj2 : j < k * 2 := by
              have := (List.getElem?_eq_some_iff.1 hj).1
              rw [recV_len encP_len, List.length_take, plsR_len, Nat.min_eq_left (by omega)] at this
              exact this
            rw [← recV_take encP_len, List.getElem?_take_of_lt hj2] at hj
            have hc := HCE.out j u hj
            rw [Addr.add_lit, Nat.zero_add, HK1.out.cell (World.block_lt_of_cell? _ _ hc)]
            exact hc
          case q3 => omega
          intro v2 W2 hown2 ho2 _
          have HO2 := Lib.hid hown2
          have HK2 := Lib.hid (ho2.below HK1.out HK1.out.size (fun j hj => (HO1.out.lt j hj).1))
          refine ⟨HK2.out, ?_⟩
          clear hown2 ho2 HO1 HK1
          simp only [List.getElem_toArray, List.getElem_cons_succ, List.getElem_cons_zero, Act.put, List.setIfInBounds_toArray, List.set_cons_zero, List.set_cons_succ]
          refine lexH_append_src _ rfl rfl _ _ 63 rfl w1.heap.size 70 i0 _ 2 16 Try.underlying63 hi hz0 hz1 hz2 rfl (by decide) _ _ _ HO2.out HK2.out.size (some A2) (A.L.length - (k + 1)) (D.c - (k + 1)) (recV encP ((plsR D.g A.L).drop (k + 1))) rfl rfl ?q4 ?q5 (recV_one encP_one _) ?q6 (by decide) ?_
          case q4 => rw [recV_len encP_len, List.length_drop, plsR_len]
          case q5 =>
            refine fun hp => ⟨_, rfl, fun j u hj => ?_⟩
            rw [← recV_drop encP_len, List.getElem?_drop] at hj
            have hc := HCE.out _ u hj
            rw [HA2.out hp, Addr.add_lit, HK2.out.cell (World.block_lt_of_cell? _ _ hc)]
            exact hc
          case q6 => omega
          intro v3 W3 hown3 ho3 _
          have HK3 := Lib.hid (ho3.below HK2.out HK2.out.size (fun j hj => (HO2.out.lt j hj).1))
          have hlen : (cutL A.L x).length = 0 + k + (A.L.length - (k + 1)) := by
            rw [HC.out, List.length_append, List.length_take, Nat.min_eq_left (by omega), List.length_drop]; omega
          obtain ⟨a3, cap3, hv3, _⟩ := owns_slice hown3
          subst hv3
          have hO3 : W3.ownsRow w1.heap.size 70 2 (.slice a3 (cutL A.L x).length cap3) (cutL A.L x).length (recV encP (plsR D.g (cutL A.L x))) := by
            rw [hlen, HC.out]
            have e : plsR D.g (A.L.take k ++ A.L.drop (k + 1)) = (plsR D.g A.L).take k ++ (plsR D.g A.L).drop (k + 1) := by
              unfold plsR
              rw [List.map_append, List.map_take, List.map_drop]
            rw [e, recV_append]
            simpa using hown3
          have HT := Lib.hid (show DPostD w D A x (A.drop x) (.returned (.int .i64 0)) (W3.setCell ⟨D.d, 2, none⟩ (.slice a3 (0 + k + (A.L.length - (k + 1))) cap3)) from by
            have h := HR1.out.cut HK3.out hO3
            rw [HZ.out]
            rw [hlen] at h
            exact ⟨rfl, _, ⟨h.at_, h.d, (Only.of_below HB1.out).trans h.only, fun q hq => (h.new q hq).elim .inl (fun h => h.elim (fun h => .inr (.inl h)) (fun h => .inr (.inr (Nat.le_trans HB1.out.size h)))), h.b⟩, fun _ S hf => HR1.out.cut_off (fun k hk => ((owns_facts hO3).2 k hk).1) hf, ((Only.of_below HB1.out).trans (Only.of_below HK3.out)).trans (Only.setCell (S := fun k => k = D.d) W3 ⟨D.d, 2, none⟩ rfl _)⟩)
          refine ⟨HK3.out, ?_⟩
          have c3 := (HR1.out.later HK3.out).c2
          have f3 : W3.frozen? ⟨D.d, 2, none⟩ = false := (HR1.out.row.later HK3.out).frozen 2
          generalize 0 + k + (A.L.length - (k + 1)) = q at *
          clear hO3 hown3 ho3 HO2 HK2 HK3 hlen
          simp only [List.getElem_toArray, List.getElem_cons_succ, List.getElem_cons_zero, Act.put, List.setIfInBounds_toArray, List.set_cons_zero, List.set_cons_succ]
          refine lexH_yieldE rfl rfl ?_
          apply Exists.intro
          refine ⟨fun W hW => ?_, ?_⟩
          focus (go_simp; exact rfl)
          simp only [List.getElem_toArray, List.getElem_cons_succ, List.getElem_cons_zero, Act.put, List.setIfInBounds_toArray, List.set_cons_zero, List.set_cons_succ]
          refine lexH_yieldE rfl rfl ?_
          apply Exists.intro
          refine ⟨fun W hW => ?_, ?_⟩
          focus (go_simp; exact rfl)
          simp only [List.getElem_toArray, List.getElem_cons_succ, List.getElem_cons_zero, Act.put, List.setIfInBounds_toArray, List.set_cons_zero, List.set_cons_succ]
          refine lexH_last rfl rfl ?_
          unfold Oper.wp
          go_simp
          go_wp2_with (fail)
          go_ret
          exact HT.out
        · have HZ := Lib.hid (show A.drop x = (80, A) by unfold Ca.drop; rw [HF.out]; exact if_neg hb)
          have hbI : (A.L[k].S.ch.length : Int) < (A.L[k].S.n : Int) := by omega
          clear hb hle
          generalize A.L[k].S.ch.length = n1 at *
          generalize A.L[k].S.n = n2 at *
          generalize (D.g x).r = rq at *
          go_wp2_with (fail)
          go_quiet (fail)
          have HP := Lib.hid (show DPostD w D A x (A.drop x) (.returned (.int .i64 80)) (w.drewN nq) from by
            rw [HZ.out]
            exact ⟨rfl, D, (DTurn.same HR.out).later (below_drewN (Below.refl w.heap.size w) nq), fun h => absurd (show (80 : Int) = 0 from h) (by decide), Only.drewN _ _ _⟩)
          clear c2 c3 c4 k0 k1
          go_wp2_with (fail)
          go_ret
          exact HP.out
      · have HM := Lib.hid (show ∀ j (h : j < A.L.length), j < k + 1 → A.L[j].fr ≠ x from fun j h hj => by
          by_cases e : j < k
          · exact HN.out j h e
          · obtain rfl : j = k := by omega
            exact hx)
        have hx2 : (A.L[k].fr == x) = false := by simpa using hx
        clear hx ha hS hI
        generalize A.L[k].fr = fq at *
        go_wp2_with (fail)
        go_round
        case rel => exact ⟨k + 1, hlt, by go_num, HM.out⟩
        case measure => simp [intOf]; omega
    · obtain rfl : k = A.L.length := by omega
      have e : findL A.L x = none := findL_no fun p hp => by
        obtain ⟨j, hj, rfl⟩ := List.mem_iff_getElem.1 hp
        exact HN.out j hj hj
      have HP := Lib.hid (show DPostD w D A x (A.drop x) (.returned (.int .i64 7)) w from by
        have hz : A.drop x = (7, A) := by unfold Ca.drop; rw [e]
        rw [hz]
        exact ⟨rfl, D, DTurn.same HR.out, fun h => absurd (show (7 : Int) = 0 from h) (by decide), Only.refl _ _⟩)
      clear e
      go_wp2_with (fail)
      go_ret
      exact HP.out
end
end Go.Proofs.Ytlimbcpghfddkaa
