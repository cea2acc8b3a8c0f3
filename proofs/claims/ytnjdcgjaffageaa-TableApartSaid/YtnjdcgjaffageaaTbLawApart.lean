/-
  The walk of TableApart, for whatever table.
-/
import Derived.Test.YtnjdcgjaffageaaTbKp
import Derived.Test.YtnjdcgjaffageaaTbOps
namespace Go.Proofs.Ytnjdcgjaffageaa
open Go.RowKit Go.Shelf Go
attribute [local go_sem] Oper.semAt_some

/-- The first k leaves. -/
def r3 (k : Nat) : Nat → Nat := fun j => if j < k then j + 1 else 0
theorem r3_next (k : Nat) : setR (r3 k) k (k + 1) = r3 (k + 1) := by
  funext j
  unfold setR r3
  by_cases h : j = k
  · rw [if_pos h, if_pos (by omega), h]
  · rw [if_neg h]
    by_cases h1 : j < k
    · rw [if_pos h1, if_pos (by omega)]
    · rw [if_neg h1, if_neg (by omega)]
/-- What the law wants of each page. -/
def wtV (X : Nat → Nat → Ent) (i : Nat) : Value := etV (X (i / 2 / 32 + 1) (i / 2 % 32)) (i % 2)
theorem wt_zero : ∀ i, i < 192 → wtV (fun _ _ => (0, 0)) i = if i % 2 = 0 then .int .u8 0 else .int .i64 0 := fun _ _ => rfl
/-- An entry is set there. -/
theorem wt_set (X : Nat → Nat → Ent) (p : Nat) (x : Ent) (i : Nat) (_ : i < 192) : (if p * 2 ≤ i ∧ i < p * 2 + 2 then [Value.int .u8 x.1, .int .i64 x.2].getD (i - p * 2) undef else wtV X i) = wtV (setX X (p / 32 + 1) (p % 32) x) i := by
  unfold wtV setX
  by_cases h1 : i = p * 2 + 1
  · subst h1
    rw [if_pos ⟨by omega, by omega⟩, if_pos ⟨by omega, by omega⟩, show p * 2 + 1 - p * 2 = 1 by omega]
    unfold etV
    rw [if_neg (by omega)]
    rfl
  · by_cases h0 : i = p * 2
    · subst h0
      rw [if_pos ⟨by omega, by omega⟩, if_pos ⟨by omega, by omega⟩, Nat.sub_self]
      unfold etV
      rw [if_pos (by omega)]
      rfl
    · rw [if_neg (by omega), if_neg (by omega)]
theorem get_r3 (X : Nat → Nat → Ent) (p : Nat) (hp : p < 96) : getX (r3 3) X p = X (p / 32 + 1) (p % 32) := by
  have h : r3 3 (p / 32) = p / 32 + 1 := if_pos (by omega)
  unfold getX
  rw [h, if_neg (by omega)]
def wantZ : Array Value := Array.ofFn (n := 192) fun i => if i.val % 2 = 0 then Value.int .u8 0 else .int .i64 0
theorem zero_want (W : World) : (zeroValue 44).run Try.prog W = .ok (.agg wantZ) W := by kernel_rfl
theorem want_row (w : World) : RowAt (w.alloc (.cells wantZ 44)) w.heap.size 192 (wtV (fun _ _ => (0, 0))) := RowAt.new w _ _ _ _ fun i hi => by
  unfold wantZ
  rw [Array.getElem?_ofFn, dif_pos hi, wt_zero i hi]
/-- The memory and what is wanted. -/
structure AW (IsT : Thg → Nat → (Nat → Nat) → (Nat → Nat → Ent) → Prop) (w w0 : World) (m wb : Nat) (X : Nat → Nat → Ent) (W : World) : Prop where
  mem : MKP IsT w0 m (r3 3) X (fun k => k = wb) W
  row : RowAt W wb 192 (wtV X)
  b0 : Below w.heap.size w w0
  lo : w0.heap.size ≤ wb
section
variable {IsT : Thg → Nat → (Nat → Nat) → (Nat → Nat → Ent) → Prop} {w w0 W W' : World} {m wb : Nat} {X : Nat → Nat → Ent}
theorem AW.bel (h : AW IsT w w0 m wb X W) : Below w.heap.size w W := h.b0.trans (h.mem.mk.bel.mono h.b0.size)
theorem AW.later (h : AW IsT w w0 m wb X W) (hb : Below W.heap.size W W') : AW IsT w w0 m wb X W' := ⟨h.mem.later hb, h.row.later hb, h.b0, h.lo⟩
theorem AW.turn {X' : Nat → Nat → Ent} (h : AW IsT w w0 m wb X W) (hm : MKP IsT w0 m (r3 3) X' (fun k => k = wb) W') (ho : Only (fun k => ¬ k = wb) W W') (hx : X' = X) : AW IsT w w0 m wb X W' :=
  ⟨by rw [← hx]; exact hm, h.row.only ho (fun h => h rfl), h.b0, h.lo⟩
end
section
variable {IsT : Thg → Nat → (Nat → Nat) → (Nat → Nat → Ent) → Prop} (ok : TabOk IsT)
include ok
set_option maxRecDepth 100000 in
set_option maxHeartbeats 8000000 in
theorem lawTApart_any (a : Option Addr) (len cap : Nat) (z : Nat → Int) (a2 : Option Addr) (len2 cap2 : Nat) (O : Nat → Ent) (w : World) (hZ : IntsIn w a len z) (hO : EntsIn w a2 len2 O) :
    Calls Try.prog 4 #[.slice a len cap, .slice a2 len2 cap2] w fun e w' => e = .returned (.bool true) ∧ Below w.heap.size w w' := by
  have HZ := Lib.hid hZ
  have HO := Lib.hid hO
  clear hZ hO
  go_enter Try.func4, Try.ntmps4
  go_wp2_with (fail)
  refine (four_any w).mono ?_
  rintro e w1 ⟨A, rfl, hA, hb⟩
  have HB1 := Lib.hid hb
  clear hb
  go_wp2_with (fail)
  refine (made_mk ok w1 A hA).mono ?_
  rintro e w2 ⟨m, rfl, hK⟩
  have HK2 := Lib.hid (show MK IsT w1 m (r3 0) (fun _ _ => (0, 0)) w2 from hK)
  clear hK hA
  by_cases hl : len ≤ 100 ∧ len ≤ len2
  · obtain ⟨hl1, hl2⟩ := hl
    have hl1I : ¬ (100 : Int) < len := by omega
    have hl2I : ¬ (len2 : Int) < len := by omega
    have hd1 : decide ((100 : Int) < (len : Int)) = false := decide_eq_false hl1I
    have hd2 : decide (len2 < len) = false := decide_eq_false (by omega)
    go_wp2_with (fail)
    go_loopw [4, 49] (fun r i wr => ∃ k : Nat, k ≤ 3 ∧ r = .bool false ∧ i = .int .i64 k ∧ Hid (MK IsT w1 m (r3 k) (fun _ _ => (0, 0)) wr)) (fun _ i _ => 3 - (intOf i).toNat)
    case atStart => exact ⟨0, Nat.zero_le _, rfl, rfl, HK2⟩
    case round =>
      clear HK2
      obtain ⟨k, hk, rfl, rfl, HKk⟩ := hrel
      by_cases hlt : k < 3
      · have hkI : (k : Int) < 3 := by omega
        have hp1 : Pg (32 * (k : Int)) := ⟨by omega, by omega⟩
        have hd : (32 * (k : Int)).toNat / 32 = k := by omega
        have HR := Lib.hid (show (if Pg (32 * (k : Int)) then setR (r3 k) ((32 * (k : Int)).toNat / 32) (k + 1) else r3 k) = r3 (k + 1) from by rw [if_pos hp1, hd, r3_next])
        have HC := Lib.hid (show (if Pg (32 * (k : Int)) then (0 : Int) else 2) = 0 from if_pos hp1)
        clear hp1 hd
        go_wp2_with (fail)
        refine (setLeaf_mkE ok HKk.out (32 * (k : Int)) ((k : Int) + 1) (k + 1) ⟨by omega, by omega⟩ (by omega) (by rw [if_neg (by omega)]; omega) 0 (r3 (k + 1)) HC.out HR.out).mono ?_
        rintro e w3 ⟨rfl, hK⟩
        have HK3 := Lib.hid hK
        clear hK HKk HR HC
        go_wp2_with (fail)
        go_roundw
        case rel => exact ⟨k + 1, hlt, rfl, by go_num, HK3⟩
        case measure => simp [intOf]; omega
      · obtain rfl : k = 3 := by omega
        clear hlt hk
        rw [show ((3 : Nat) : Int) = 3 from rfl]
        have hz := zero_want
        obtain ⟨w5, hw5⟩ : ∃ w5, wr.alloc (.cells wantZ 44) = w5 := ⟨_, rfl⟩
        have HA5 := Lib.hid (show AW IsT w w1 m wr.heap.size (fun _ _ => (0, 0)) w5 from by
          rw [← hw5]
          exact ⟨HKk.out.kp.add ((Below.refl _ _).alloc (Nat.le_refl _) _) (fun k hk => .inr ⟨Nat.le_of_eq hk.symm, by rw [hk]; simp⟩), want_row wr, HB1.out, HKk.out.bel.size⟩)
        clear HKk
        go_wp2_with (fail)
        clear hw5 hz
        generalize wr.heap.size = wb at *
        go_loopw [4, 62] (fun r i wr => ∃ (k : Nat) (X : Nat → Nat → Ent), k ≤ len ∧ r = .bool false ∧ i = .int .i64 k ∧ Hid (AW IsT w w1 m wb X wr)) (fun _ i _ => len - (intOf i).toNat)
        case atStart => exact ⟨0, _, Nat.zero_le _, rfl, rfl, HA5⟩
        case round =>
          clear HA5
          obtain ⟨k, X, hk, rfl, rfl, HAk⟩ := hrel
          by_cases hlt : k < len
          · obtain ⟨gp, op, rfl, hgp, hpI, hpat⟩ := HZ.out.one k hlt
            obtain ⟨ge, oe, rfl, hge, hxI, heat⟩ := HO.out.one k (by omega)
            have HPI := Lib.hid (show InI (z k) from hpI)
            have HEI := Lib.hid (show EntIn (O k) from hxI)
            have HPA := Lib.hid hpat
            have HEA := Lib.hid heat
            obtain ⟨p, hp⟩ : ∃ p, z k = p := ⟨_, rfl⟩
            obtain ⟨x, hx⟩ : ∃ x, O k = x := ⟨_, rfl⟩
            obtain ⟨x1, x2⟩ := x
            rw [hp] at HPI HPA
            rw [hx] at HEI HEA
            have hklI : (k : Int) < len := by omega
            have hklI2 : (k : Int) < len2 := by omega
            obtain ⟨v, hv⟩ : ∃ v, wordV (x1, x2) = v := ⟨_, rfl⟩
            have HV := Lib.hid hv
            clear hpI hxI hpat heat hp hx hv
            by_cases hin : 0 ≤ p ∧ p < 96
            · obtain ⟨hin1, hin2⟩ := hin
              by_cases hok : entOk (x1, x2)
              · obtain ⟨P, rfl⟩ : ∃ P : Nat, p = P := ⟨p.toNat, by omega⟩
                have hP : P < 96 := by omega
                have hPI : (P : Int) < 96 := by omega
                have hpg : Pg (P : Int) := ⟨by omega, by omega⟩
                have hr : r3 3 ((P : Int).toNat / 32) = P / 32 + 1 := by
                  rw [Int.toNat_natCast]
                  exact if_pos (by omega)
                have HC := Lib.hid (show (if Pg (P : Int) ∧ entOk (x1, x2) then (if r3 3 ((P : Int).toNat / 32) = 0 then 7 else 0) else 2) = (0 : Int) from by rw [if_pos ⟨hpg, hok⟩, hr, if_neg (by omega)])
                have HE := Lib.hid (show (if Pg (P : Int) ∧ entOk (x1, x2) ∧ r3 3 ((P : Int).toNat / 32) ≠ 0 then setX X (r3 3 ((P : Int).toNat / 32)) ((P : Int).toNat % 32) (x1, x2) else X) = setX X (P / 32 + 1) (P % 32) (x1, x2) from by
                  rw [if_pos ⟨hpg, hok, by rw [hr]; omega⟩, hr, Int.toNat_natCast])
                have HEV := Lib.hid (show wordE (x1, x2) = 0 from if_pos hok)
                clear hpg hr hok hin1 hin2
                have HSA := Lib.hid (show ∀ U, AW IsT w w1 m wb X U → U.cell? ⟨gp, op + k, none⟩ = some (.int .i64 (P : Int)) ∧ U.cell? ⟨ge, oe + k * 2, none⟩ = some (.int .u8 x1) ∧ U.cell? ⟨ge, oe + k * 2 + 1, none⟩ = some (.int .i64 x2) from fun U hU => ⟨HPA.out U hU.bel, HEA.out U hU.bel⟩)
                have LP := Lib.hid (show ∀ U, U.cell? ⟨gp, op + k, none⟩ = some (.int .i64 (P : Int)) ∧ U.cell? ⟨ge, oe + k * 2, none⟩ = some (.int .u8 x1) ∧ U.cell? ⟨ge, oe + k * 2 + 1, none⟩ = some (.int .i64 x2) → (loadVar 3 ⟨gp, op + k, none⟩).run Try.prog U = .ok (.int .i64 (P : Int)) U from fun U hU => run_loadVar_cell (fun _ => by kernel_rfl) hU.1)
                have LE := Lib.hid (show ∀ U, U.cell? ⟨gp, op + k, none⟩ = some (.int .i64 (P : Int)) ∧ U.cell? ⟨ge, oe + k * 2, none⟩ = some (.int .u8 x1) ∧ U.cell? ⟨ge, oe + k * 2 + 1, none⟩ = some (.int .i64 x2) → (loadVar 23 ⟨ge, oe + k * 2, none⟩).run Try.prog U = .ok (.agg #[.int .u8 x1, .int .i64 x2]) U from fun U hU => load_ent hU.2.1 hU.2.2)
                go_wp2_with (fail)
                refine wp_region_lex1 (fun U => U.cell? ⟨gp, op + k, none⟩ = some (.int .i64 (P : Int)) ∧ U.cell? ⟨ge, oe + k * 2, none⟩ = some (.int .u8 x1) ∧ U.cell? ⟨ge, oe + k * 2 + 1, none⟩ = some (.int .i64 x2)) [(0, false), (1, false), (2, false), (3, false), (4, false), (5, false), (6, false), (7, false), (8, false), (9, true), (10, false)] (by kernel_rfl) (by kernel_rfl) rfl (by kernel_rfl) (HSA.out _ (HAk.out.later (below_drewN (Below.refl _ _) 1))) ?_
                intro U0 hU0 hS0
                have HA0 := Lib.hid (show AW IsT w w1 m wb X U0 from by rw [hU0]; exact HAk.out.later (below_drewN (Below.refl _ _) 1))
                clear hU0 hS0
                refine lexH_yieldE rfl rfl ?_
                apply Exists.intro
                refine ⟨fun W hW => ?_, ?_⟩
                focus (go_simp; exact rfl)
                simp only [List.getElem_toArray, List.getElem_cons_zero, Act.put, List.setIfInBounds_toArray, List.set_cons_zero, List.set_cons_succ]
                refine lexH_yieldE rfl rfl ?_
                apply Exists.intro
                refine ⟨fun W hW => ?_, ?_⟩
                focus (go_simp; exact rfl)
                simp only [List.getElem_toArray, List.getElem_cons_succ, List.getElem_cons_zero, Act.put, List.setIfInBounds_toArray, List.set_cons_zero, List.set_cons_succ]
                refine lexH_yieldE rfl rfl ?_
                apply Exists.intro
                refine ⟨fun W hW => ?_, ?_⟩
                focus (go_simp; exact rfl)
                simp only [List.getElem_toArray, List.getElem_cons_succ, List.getElem_cons_zero, Act.put, List.setIfInBounds_toArray, List.set_cons_zero, List.set_cons_succ]
                refine lexH_yieldE rfl rfl ?_
                apply Exists.intro
                refine ⟨fun W hW => ?_, ?_⟩
                focus (go_simp; exact rfl)
                simp only [List.getElem_toArray, List.getElem_cons_succ, List.getElem_cons_zero, Act.put, List.setIfInBounds_toArray, List.set_cons_zero, List.set_cons_succ]
                refine lexH_load rfl rfl _ _ rfl rfl LP.out ?_
                simp only [List.getElem_toArray, List.getElem_cons_succ, List.getElem_cons_zero, Act.put, List.setIfInBounds_toArray, List.set_cons_zero, List.set_cons_succ]
                refine lexH_yieldE rfl rfl ?_
                apply Exists.intro
                refine ⟨fun W hW => ?_, ?_⟩
                focus (go_simp; exact rfl)
                simp only [List.getElem_toArray, List.getElem_cons_succ, List.getElem_cons_zero, Act.put, List.setIfInBounds_toArray, List.set_cons_zero, List.set_cons_succ]
                refine lexH_yieldE rfl rfl ?_
                apply Exists.intro
                refine ⟨fun W hW => ?_, ?_⟩
                focus (go_simp; exact rfl)
                simp only [List.getElem_toArray, List.getElem_cons_succ, List.getElem_cons_zero, Act.put, List.setIfInBounds_toArray, List.set_cons_zero, List.set_cons_succ]
                refine lexH_yieldE rfl rfl ?_
                apply Exists.intro
                refine ⟨fun W hW => ?_, ?_⟩
                focus (go_simp; exact rfl)
                simp only [List.getElem_toArray, List.getElem_cons_succ, List.getElem_cons_zero, Act.put, List.setIfInBounds_toArray, List.set_cons_zero, List.set_cons_succ]
                refine lexH_load rfl rfl _ _ rfl rfl LE.out ?_
                simp only [List.getElem_toArray, List.getElem_cons_succ, List.getElem_cons_zero, Act.put, List.setIfInBounds_toArray, List.set_cons_zero, List.set_cons_succ]
                refine lexH_call 14 #[.pointer (some ⟨m, 0, none⟩), .int .i64 0, .int .i64 (P : Int), .agg #[.int .u8 x1, .int .i64 x2]] rfl rfl ?_ ?_
                focus (go_simp; done)
                refine (set_mkp ok HA0.out.mem (P : Int) x1 x1 x2 rfl HPI.out HEI.out.1 HEI.out.2 0 (setX X (P / 32 + 1) (P % 32) (x1, x2)) HC.out HE.out).mono ?_
                rintro e U1 ⟨rfl, hm, ho⟩
                have HB1' := Lib.hid (show Below w.heap.size w U1 from HAk.out.b0.trans (hm.mk.bel.mono HAk.out.b0.size))
                have HS1 := Lib.hid (show U1.cell? ⟨gp, op + k, none⟩ = some (.int .i64 (P : Int)) ∧ U1.cell? ⟨ge, oe + k * 2, none⟩ = some (.int .u8 x1) ∧ U1.cell? ⟨ge, oe + k * 2 + 1, none⟩ = some (.int .i64 x2) from ⟨HPA.out U1 HB1'.out, HEA.out U1 HB1'.out⟩)
                have HM1 := Lib.hid hm
                have HR1 := Lib.hid (HA0.out.row.only ho (fun h => h rfl))
                clear hm ho
                refine ⟨_, rfl, HS1.out, ?_⟩
                simp only [List.getElem_toArray, List.getElem_cons_succ, List.getElem_cons_zero, Act.put, List.setIfInBounds_toArray, List.set_cons_zero, List.set_cons_succ]
                refine lexH_yieldE rfl rfl ?_
                apply Exists.intro
                refine ⟨fun W hW => ?_, ?_⟩
                focus (go_simp; exact rfl)
                simp only [List.getElem_toArray, List.getElem_cons_succ, List.getElem_cons_zero, Act.put, List.setIfInBounds_toArray, List.set_cons_zero, List.set_cons_succ]
                refine lexH_nil ?_
                have kp := HS1.out.1
                have ke0 := HS1.out.2.1
                have ke1 := HS1.out.2.2
                go_wp2_with (fail)
                refine (word_I ok.toWordOk U1 x1 x1 x2 v 0 rfl HEI.out.1 HEI.out.2 HV.out HEV.out).mono ?_
                rintro e U2 ⟨rfl, hb⟩
                have HB2' := Lib.hid (HB1'.out.trans (hb.mono HB1'.out.size))
                have HM2 := Lib.hid (HM1.out.later hb)
                have HR2 := Lib.hid (HR1.out.later hb)
                have HS2 := Lib.hid (show U2.cell? ⟨gp, op + k, none⟩ = some (.int .i64 (P : Int)) ∧ U2.cell? ⟨ge, oe + k * 2, none⟩ = some (.int .u8 x1) ∧ U2.cell? ⟨ge, oe + k * 2 + 1, none⟩ = some (.int .i64 x2) from ⟨HPA.out U2 HB2'.out, HEA.out U2 HB2'.out⟩)
                clear hb kp ke0 ke1
                have kp := HS2.out.1
                go_wp2_with (fail)
                refine wp_region_lex1 (fun U => U.cell? ⟨gp, op + k, none⟩ = some (.int .i64 (P : Int)) ∧ U.cell? ⟨ge, oe + k * 2, none⟩ = some (.int .u8 x1) ∧ U.cell? ⟨ge, oe + k * 2 + 1, none⟩ = some (.int .i64 x2)) [(0, false), (1, false), (2, false), (3, false), (4, false), (5, false), (6, false), (7, false), (8, false), (9, true)] (by kernel_rfl) (by kernel_rfl) rfl (by kernel_rfl) HS2.out ?_
                intro U3 hU3 hS3
                have HM3 := Lib.hid (show MKP IsT w1 m (r3 3) _ (fun k => k = wb) U3 from by rw [hU3]; exact HM2.out.later (below_drewN (Below.refl _ _) 1))
                have HR3 := Lib.hid (show RowAt U3 wb 192 (wtV X) from by rw [hU3]; exact HR2.out.later (below_drewN (Below.refl _ _) 1))
                have HB3' := Lib.hid (show Below w.heap.size w U3 from by rw [hU3]; exact below_drewN HB2'.out 1)
                clear hU3 hS3 kp
                refine lexH_yieldE rfl rfl ?_
                apply Exists.intro
                refine ⟨fun W hW => ?_, ?_⟩
                focus (go_simp; exact rfl)
                simp only [List.getElem_toArray, List.getElem_cons_zero, Act.put, List.setIfInBounds_toArray, List.set_cons_zero, List.set_cons_succ]
                refine lexH_yieldE rfl rfl ?_
                apply Exists.intro
                refine ⟨fun W hW => ?_, ?_⟩
                focus (go_simp; exact rfl)
                simp only [List.getElem_toArray, List.getElem_cons_succ, List.getElem_cons_zero, Act.put, List.setIfInBounds_toArray, List.set_cons_zero, List.set_cons_succ]
                refine lexH_yieldE rfl rfl ?_
                apply Exists.intro
                refine ⟨fun W hW => ?_, ?_⟩
                focus (go_simp; exact rfl)
                simp only [List.getElem_toArray, List.getElem_cons_succ, List.getElem_cons_zero, Act.put, List.setIfInBounds_toArray, List.set_cons_zero, List.set_cons_succ]
                refine lexH_load rfl rfl _ _ rfl rfl LP.out ?_
                simp only [List.getElem_toArray, List.getElem_cons_succ, List.getElem_cons_zero, Act.put, List.setIfInBounds_toArray, List.set_cons_zero, List.set_cons_succ]
                refine lexH_yieldE rfl rfl ?_
                apply Exists.intro
                refine ⟨fun W hW => ?_, ?_⟩
                focus (go_simp; exact rfl)
                simp only [List.getElem_toArray, List.getElem_cons_succ, List.getElem_cons_zero, Act.put, List.setIfInBounds_toArray, List.set_cons_zero, List.set_cons_succ]
                refine lexH_yieldE rfl rfl ?_
                apply Exists.intro
                refine ⟨fun W hW => ?_, ?_⟩
                focus (go_simp; exact rfl)
                simp only [List.getElem_toArray, List.getElem_cons_succ, List.getElem_cons_zero, Act.put, List.setIfInBounds_toArray, List.set_cons_zero, List.set_cons_succ]
                refine lexH_yieldE rfl rfl ?_
                apply Exists.intro
                refine ⟨fun W hW => ?_, ?_⟩
                focus (go_simp; exact rfl)
                simp only [List.getElem_toArray, List.getElem_cons_succ, List.getElem_cons_zero, Act.put, List.setIfInBounds_toArray, List.set_cons_zero, List.set_cons_succ]
                refine lexH_load rfl rfl _ _ rfl rfl LE.out ?_
                simp only [List.getElem_toArray, List.getElem_cons_succ, List.getElem_cons_zero, Act.put, List.setIfInBounds_toArray, List.set_cons_zero, List.set_cons_succ]
                refine lexH_yieldE rfl rfl ?_
                apply Exists.intro
                refine ⟨fun W hW => ?_, ?_⟩
                focus (go_simp; exact rfl)
                simp only [List.getElem_toArray, List.getElem_cons_succ, List.getElem_cons_zero, Act.put, List.setIfInBounds_toArray, List.set_cons_zero, List.set_cons_succ]
                refine lexH_eff rfl rfl ?_
                refine wp_store_mid _ _ _ rfl wb (P * 2) _ rfl rfl (HR3.out.there (P * 2) 2 (by omega)) sizeEnt (by simp [Value.oneCell']) ?_
                have HA4 := Lib.hid (show AW IsT w w1 m wb (setX X (P / 32 + 1) (P % 32) (x1, x2)) (U3.setCells wb (P * 2) [.int .u8 x1, .int .i64 x2]) from
                  ⟨HM3.out.own (Only.setCells (S := fun k => k = wb) rfl _ _ _) (fun _ h => h) (fun k h => by rw [h]; exact HAk.out.lo), (RowAt.setCells [.int .u8 x1, .int .i64 x2] (P * 2) U3 _ HR3.out).ext (fun i hi => wt_set X P (x1, x2) i hi), HAk.out.b0, HAk.out.lo⟩)
                refine ⟨⟨HPA.out _ HA4.out.bel, HEA.out _ HA4.out.bel⟩, ?_⟩
                simp only [List.getElem_toArray, List.getElem_cons_succ, List.getElem_cons_zero, Act.put]
                generalize U3.setCells wb (P * 2) [.int .u8 x1, .int .i64 x2] = U4 at HA4 ⊢
                refine lexH_nil ?_
                have HAB := HA4
                clear HS1 HS2 HM1 HM2 HM3 HR1 HR2 HR3 HA0 HA4
                go_wp2_with (fail)
                go_loopw [4, 114] (fun r i wr => ∃ q : Nat, q ≤ 96 ∧ r = .bool false ∧ i = .int .i64 q ∧ Hid (AW IsT w w1 m wb (setX X (P / 32 + 1) (P % 32) (x1, x2)) wr)) (fun _ i _ => 96 - (intOf i).toNat)
                case atStart => exact ⟨0, Nat.zero_le _, rfl, rfl, HAB⟩
                case round =>
                  clear HAB
                  obtain ⟨q, hq, rfl, rfl, HAq⟩ := hrel
                  by_cases hlq : q < 96
                  · have hlqI : (q : Int) < 96 := by omega
                    obtain ⟨y, hx⟩ : ∃ y, getX (r3 3) ((setX X (P / 32 + 1) (P % 32) (x1, x2))) q = y := ⟨_, rfl⟩
                    obtain ⟨y1, y2⟩ := y
                    have HX := Lib.hid hx
                    have HX2 := Lib.hid (show ((setX X (P / 32 + 1) (P % 32) (x1, x2))) (q / 32 + 1) (q % 32) = (y1, y2) from by rw [← get_r3 ((setX X (P / 32 + 1) (P % 32) (x1, x2))) q hlq]; exact hx)
                    clear hx
                    go_wp2_with (fail)
                    refine (get_mk ok HAq.out.mem.mk q q rfl (by omega) y1 y2 HX.out).mono ?_
                    rintro e w8 ⟨rfl, hb⟩
                    have HAr := Lib.hid (HAq.out.later hb)
                    clear hb HAq
                    obtain ⟨w9, hw9⟩ : ∃ w9, (w8.alloc (.cells #[.int .u8 y1, .int .i64 y2] 23)) = w9 := ⟨_, rfl⟩
                    have HA9 := Lib.hid (show AW IsT w w1 m wb ((setX X (P / 32 + 1) (P % 32) (x1, x2))) w9 from by rw [← hw9]; exact HAr.out.later ((Below.refl _ _).alloc (Nat.le_refl _) _))
                    have d0 : w9.cell? ⟨w8.heap.size, 0, none⟩ = some (.int .u8 y1) := by rw [← hw9]; exact (ent_row w8 (y1, y2)).cell 0 (by decide)
                    have d1 : w9.cell? ⟨w8.heap.size, 1, none⟩ = some (.int .i64 y2) := by rw [← hw9]; exact (ent_row w8 (y1, y2)).cell 1 (by decide)
                    have c0 : w9.cell? ⟨wb, q * 2, none⟩ = some (.int .u8 y1) := by
                      rw [HA9.out.row.cell (q * 2) (by omega)]
                      unfold wtV
                      rw [show q * 2 / 2 = q by omega, HX2.out, show q * 2 % 2 = 0 by omega]
                      rfl
                    have c1 : w9.cell? ⟨wb, q * 2 + 1, none⟩ = some (.int .i64 y2) := by
                      rw [HA9.out.row.cell (q * 2 + 1) (by omega)]
                      unfold wtV
                      rw [show (q * 2 + 1) / 2 = q by omega, HX2.out, show (q * 2 + 1) % 2 = 1 by omega]
                      rfl
                    clear HAr
                    go_wp2_with (fail)
                    go_quiet (fail)
                    have HA10 := Lib.hid (HA9.out.later (below_drewN (Below.refl _ _) nq))
                    clear HA9 c0 c1 d0 d1 hw9
                    generalize w9.drewN nq = w10 at *
                    go_wp2_with (fail)
                    go_roundw
                    case rel => exact ⟨q + 1, hlq, rfl, by go_num, HA10⟩
                    case measure => first | (simp [intOf]; omega) | simp [intOf]
                  · obtain rfl : q = 96 := by omega
                    clear hlq hq
                    go_wp2_with (fail)
                    go_roundw
                    case rel => exact ⟨k + 1, (setX X (P / 32 + 1) (P % 32) (x1, x2)), hlt, rfl, by go_num, HAq⟩
                    case measure => first | (simp [intOf]; omega) | simp [intOf]
              · have HC := Lib.hid (show (if Pg p ∧ entOk (x1, x2) then (if r3 3 (p.toNat / 32) = 0 then 7 else 0) else 2) = (2 : Int) from if_neg fun h => hok h.2)
                have HE := Lib.hid (show (if Pg p ∧ entOk (x1, x2) ∧ r3 3 (p.toNat / 32) ≠ 0 then setX X (r3 3 (p.toNat / 32)) (p.toNat % 32) (x1, x2) else X) = X from if_neg fun h => hok h.2.1)
                have HEV := Lib.hid (show wordE (x1, x2) = 2 from if_neg hok)
                clear hok
                have HSA := Lib.hid (show ∀ U, AW IsT w w1 m wb X U → U.cell? ⟨gp, op + k, none⟩ = some (.int .i64 p) ∧ U.cell? ⟨ge, oe + k * 2, none⟩ = some (.int .u8 x1) ∧ U.cell? ⟨ge, oe + k * 2 + 1, none⟩ = some (.int .i64 x2) from fun U hU => ⟨HPA.out U hU.bel, HEA.out U hU.bel⟩)
                have LP := Lib.hid (show ∀ U, U.cell? ⟨gp, op + k, none⟩ = some (.int .i64 p) ∧ U.cell? ⟨ge, oe + k * 2, none⟩ = some (.int .u8 x1) ∧ U.cell? ⟨ge, oe + k * 2 + 1, none⟩ = some (.int .i64 x2) → (loadVar 3 ⟨gp, op + k, none⟩).run Try.prog U = .ok (.int .i64 p) U from fun U hU => run_loadVar_cell (fun _ => by kernel_rfl) hU.1)
                have LE := Lib.hid (show ∀ U, U.cell? ⟨gp, op + k, none⟩ = some (.int .i64 p) ∧ U.cell? ⟨ge, oe + k * 2, none⟩ = some (.int .u8 x1) ∧ U.cell? ⟨ge, oe + k * 2 + 1, none⟩ = some (.int .i64 x2) → (loadVar 23 ⟨ge, oe + k * 2, none⟩).run Try.prog U = .ok (.agg #[.int .u8 x1, .int .i64 x2]) U from fun U hU => load_ent hU.2.1 hU.2.2)
                go_wp2_with (fail)
                refine wp_region_lex1 (fun U => U.cell? ⟨gp, op + k, none⟩ = some (.int .i64 p) ∧ U.cell? ⟨ge, oe + k * 2, none⟩ = some (.int .u8 x1) ∧ U.cell? ⟨ge, oe + k * 2 + 1, none⟩ = some (.int .i64 x2)) [(0, false), (1, false), (2, false), (3, false), (4, false), (5, false), (6, false), (7, false), (8, false), (9, true), (10, false)] (by kernel_rfl) (by kernel_rfl) rfl (by kernel_rfl) (HSA.out _ (HAk.out.later (below_drewN (Below.refl _ _) 1))) ?_
                intro U0 hU0 hS0
                have HA0 := Lib.hid (show AW IsT w w1 m wb X U0 from by rw [hU0]; exact HAk.out.later (below_drewN (Below.refl _ _) 1))
                clear hU0 hS0
                refine lexH_yieldE rfl rfl ?_
                apply Exists.intro
                refine ⟨fun W hW => ?_, ?_⟩
                focus (go_simp; exact rfl)
                simp only [List.getElem_toArray, List.getElem_cons_zero, Act.put, List.setIfInBounds_toArray, List.set_cons_zero, List.set_cons_succ]
                refine lexH_yieldE rfl rfl ?_
                apply Exists.intro
                refine ⟨fun W hW => ?_, ?_⟩
                focus (go_simp; exact rfl)
                simp only [List.getElem_toArray, List.getElem_cons_succ, List.getElem_cons_zero, Act.put, List.setIfInBounds_toArray, List.set_cons_zero, List.set_cons_succ]
                refine lexH_yieldE rfl rfl ?_
                apply Exists.intro
                refine ⟨fun W hW => ?_, ?_⟩
                focus (go_simp; exact rfl)
                simp only [List.getElem_toArray, List.getElem_cons_succ, List.getElem_cons_zero, Act.put, List.setIfInBounds_toArray, List.set_cons_zero, List.set_cons_succ]
                refine lexH_yieldE rfl rfl ?_
                apply Exists.intro
                refine ⟨fun W hW => ?_, ?_⟩
                focus (go_simp; exact rfl)
                simp only [List.getElem_toArray, List.getElem_cons_succ, List.getElem_cons_zero, Act.put, List.setIfInBounds_toArray, List.set_cons_zero, List.set_cons_succ]
                refine lexH_load rfl rfl _ _ rfl rfl LP.out ?_
                simp only [List.getElem_toArray, List.getElem_cons_succ, List.getElem_cons_zero, Act.put, List.setIfInBounds_toArray, List.set_cons_zero, List.set_cons_succ]
                refine lexH_yieldE rfl rfl ?_
                apply Exists.intro
                refine ⟨fun W hW => ?_, ?_⟩
                focus (go_simp; exact rfl)
                simp only [List.getElem_toArray, List.getElem_cons_succ, List.getElem_cons_zero, Act.put, List.setIfInBounds_toArray, List.set_cons_zero, List.set_cons_succ]
                refine lexH_yieldE rfl rfl ?_
                apply Exists.intro
                refine ⟨fun W hW => ?_, ?_⟩
                focus (go_simp; exact rfl)
                simp only [List.getElem_toArray, List.getElem_cons_succ, List.getElem_cons_zero, Act.put, List.setIfInBounds_toArray, List.set_cons_zero, List.set_cons_succ]
                refine lexH_yieldE rfl rfl ?_
                apply Exists.intro
                refine ⟨fun W hW => ?_, ?_⟩
                focus (go_simp; exact rfl)
                simp only [List.getElem_toArray, List.getElem_cons_succ, List.getElem_cons_zero, Act.put, List.setIfInBounds_toArray, List.set_cons_zero, List.set_cons_succ]
                refine lexH_load rfl rfl _ _ rfl rfl LE.out ?_
                simp only [List.getElem_toArray, List.getElem_cons_succ, List.getElem_cons_zero, Act.put, List.setIfInBounds_toArray, List.set_cons_zero, List.set_cons_succ]
                refine lexH_call 14 #[.pointer (some ⟨m, 0, none⟩), .int .i64 0, .int .i64 p, .agg #[.int .u8 x1, .int .i64 x2]] rfl rfl ?_ ?_
                focus (go_simp; done)
                refine (set_mkp ok HA0.out.mem p x1 x1 x2 rfl HPI.out HEI.out.1 HEI.out.2 2 X HC.out HE.out).mono ?_
                rintro e U1 ⟨rfl, hm, ho⟩
                have HB1' := Lib.hid (show Below w.heap.size w U1 from HAk.out.b0.trans (hm.mk.bel.mono HAk.out.b0.size))
                have HS1 := Lib.hid (show U1.cell? ⟨gp, op + k, none⟩ = some (.int .i64 p) ∧ U1.cell? ⟨ge, oe + k * 2, none⟩ = some (.int .u8 x1) ∧ U1.cell? ⟨ge, oe + k * 2 + 1, none⟩ = some (.int .i64 x2) from ⟨HPA.out U1 HB1'.out, HEA.out U1 HB1'.out⟩)
                have HA1 := Lib.hid (HA0.out.turn hm ho rfl)
                clear hm ho
                refine ⟨_, rfl, HS1.out, ?_⟩
                simp only [List.getElem_toArray, List.getElem_cons_succ, List.getElem_cons_zero, Act.put, List.setIfInBounds_toArray, List.set_cons_zero, List.set_cons_succ]
                refine lexH_yieldE rfl rfl ?_
                apply Exists.intro
                refine ⟨fun W hW => ?_, ?_⟩
                focus (go_simp; exact rfl)
                simp only [List.getElem_toArray, List.getElem_cons_succ, List.getElem_cons_zero, Act.put, List.setIfInBounds_toArray, List.set_cons_zero, List.set_cons_succ]
                refine lexH_nil ?_
                have kp := HS1.out.1
                have ke0 := HS1.out.2.1
                have ke1 := HS1.out.2.2
                go_wp2_with (fail)
                refine (word_I ok.toWordOk U1 x1 x1 x2 v 2 rfl HEI.out.1 HEI.out.2 HV.out HEV.out).mono ?_
                rintro e U2 ⟨rfl, hb⟩
                have HB2' := Lib.hid (HB1'.out.trans (hb.mono HB1'.out.size))
                have HA2 := Lib.hid (HA1.out.later hb)
                have HS2 := Lib.hid (show U2.cell? ⟨gp, op + k, none⟩ = some (.int .i64 p) ∧ U2.cell? ⟨ge, oe + k * 2, none⟩ = some (.int .u8 x1) ∧ U2.cell? ⟨ge, oe + k * 2 + 1, none⟩ = some (.int .i64 x2) from ⟨HPA.out U2 HB2'.out, HEA.out U2 HB2'.out⟩)
                clear hb kp ke0 ke1
                have kp := HS2.out.1
                go_wp2_with (fail)
                have HAB := HA2
                clear HA0 HA1 HA2 HS1 HS2 kp
                go_loopw [4, 114] (fun r i wr => ∃ q : Nat, q ≤ 96 ∧ r = .bool false ∧ i = .int .i64 q ∧ Hid (AW IsT w w1 m wb X wr)) (fun _ i _ => 96 - (intOf i).toNat)
                case atStart => exact ⟨0, Nat.zero_le _, rfl, rfl, HAB⟩
                case round =>
                  clear HAB
                  obtain ⟨q, hq, rfl, rfl, HAq⟩ := hrel
                  by_cases hlq : q < 96
                  · have hlqI : (q : Int) < 96 := by omega
                    obtain ⟨y, hx⟩ : ∃ y, getX (r3 3) (X) q = y := ⟨_, rfl⟩
                    obtain ⟨y1, y2⟩ := y
                    have HX := Lib.hid hx
                    have HX2 := Lib.hid (show (X) (q / 32 + 1) (q % 32) = (y1, y2) from by rw [← get_r3 (X) q hlq]; exact hx)
                    clear hx
                    go_wp2_with (fail)
                    refine (get_mk ok HAq.out.mem.mk q q rfl (by omega) y1 y2 HX.out).mono ?_
                    rintro e w8 ⟨rfl, hb⟩
                    have HAr := Lib.hid (HAq.out.later hb)
                    clear hb HAq
                    obtain ⟨w9, hw9⟩ : ∃ w9, (w8.alloc (.cells #[.int .u8 y1, .int .i64 y2] 23)) = w9 := ⟨_, rfl⟩
                    have HA9 := Lib.hid (show AW IsT w w1 m wb (X) w9 from by rw [← hw9]; exact HAr.out.later ((Below.refl _ _).alloc (Nat.le_refl _) _))
                    have d0 : w9.cell? ⟨w8.heap.size, 0, none⟩ = some (.int .u8 y1) := by rw [← hw9]; exact (ent_row w8 (y1, y2)).cell 0 (by decide)
                    have d1 : w9.cell? ⟨w8.heap.size, 1, none⟩ = some (.int .i64 y2) := by rw [← hw9]; exact (ent_row w8 (y1, y2)).cell 1 (by decide)
                    have c0 : w9.cell? ⟨wb, q * 2, none⟩ = some (.int .u8 y1) := by
                      rw [HA9.out.row.cell (q * 2) (by omega)]
                      unfold wtV
                      rw [show q * 2 / 2 = q by omega, HX2.out, show q * 2 % 2 = 0 by omega]
                      rfl
                    have c1 : w9.cell? ⟨wb, q * 2 + 1, none⟩ = some (.int .i64 y2) := by
                      rw [HA9.out.row.cell (q * 2 + 1) (by omega)]
                      unfold wtV
                      rw [show (q * 2 + 1) / 2 = q by omega, HX2.out, show (q * 2 + 1) % 2 = 1 by omega]
                      rfl
                    clear HAr
                    go_wp2_with (fail)
                    go_quiet (fail)
                    have HA10 := Lib.hid (HA9.out.later (below_drewN (Below.refl _ _) nq))
                    clear HA9 c0 c1 d0 d1 hw9
                    generalize w9.drewN nq = w10 at *
                    go_wp2_with (fail)
                    go_roundw
                    case rel => exact ⟨q + 1, hlq, rfl, by go_num, HA10⟩
                    case measure => first | (simp [intOf]; omega) | simp [intOf]
                  · obtain rfl : q = 96 := by omega
                    clear hlq hq
                    go_wp2_with (fail)
                    go_roundw
                    case rel => exact ⟨k + 1, X, hlt, rfl, by go_num, HAq⟩
                    case measure => first | (simp [intOf]; omega) | simp [intOf]
            · obtain ⟨ev, hev⟩ : ∃ ev, wordE (x1, x2) = ev := ⟨_, rfl⟩
              have HEV := Lib.hid hev
              clear hev
              by_cases hlo : p < 0
              · have hnp : ¬ Pg p := fun h => by have := h.1; omega
                have hloI : ¬ 0 ≤ p := by omega
                have HC := Lib.hid (show (if Pg p ∧ entOk (x1, x2) then (if r3 3 (p.toNat / 32) = 0 then 7 else 0) else 2) = (2 : Int) from if_neg fun h => hnp h.1)
                have HE := Lib.hid (show (if Pg p ∧ entOk (x1, x2) ∧ r3 3 (p.toNat / 32) ≠ 0 then setX X (r3 3 (p.toNat / 32)) (p.toNat % 32) (x1, x2) else X) = X from if_neg fun h => hnp h.1)
                clear hnp hin
                have HSA := Lib.hid (show ∀ U, AW IsT w w1 m wb X U → U.cell? ⟨gp, op + k, none⟩ = some (.int .i64 p) ∧ U.cell? ⟨ge, oe + k * 2, none⟩ = some (.int .u8 x1) ∧ U.cell? ⟨ge, oe + k * 2 + 1, none⟩ = some (.int .i64 x2) from fun U hU => ⟨HPA.out U hU.bel, HEA.out U hU.bel⟩)
                have LP := Lib.hid (show ∀ U, U.cell? ⟨gp, op + k, none⟩ = some (.int .i64 p) ∧ U.cell? ⟨ge, oe + k * 2, none⟩ = some (.int .u8 x1) ∧ U.cell? ⟨ge, oe + k * 2 + 1, none⟩ = some (.int .i64 x2) → (loadVar 3 ⟨gp, op + k, none⟩).run Try.prog U = .ok (.int .i64 p) U from fun U hU => run_loadVar_cell (fun _ => by kernel_rfl) hU.1)
                have LE := Lib.hid (show ∀ U, U.cell? ⟨gp, op + k, none⟩ = some (.int .i64 p) ∧ U.cell? ⟨ge, oe + k * 2, none⟩ = some (.int .u8 x1) ∧ U.cell? ⟨ge, oe + k * 2 + 1, none⟩ = some (.int .i64 x2) → (loadVar 23 ⟨ge, oe + k * 2, none⟩).run Try.prog U = .ok (.agg #[.int .u8 x1, .int .i64 x2]) U from fun U hU => load_ent hU.2.1 hU.2.2)
                go_wp2_with (fail)
                refine wp_region_lex1 (fun U => U.cell? ⟨gp, op + k, none⟩ = some (.int .i64 p) ∧ U.cell? ⟨ge, oe + k * 2, none⟩ = some (.int .u8 x1) ∧ U.cell? ⟨ge, oe + k * 2 + 1, none⟩ = some (.int .i64 x2)) [(0, false), (1, false), (2, false), (3, false), (4, false), (5, false), (6, false), (7, false), (8, false), (9, true), (10, false)] (by kernel_rfl) (by kernel_rfl) rfl (by kernel_rfl) (HSA.out _ (HAk.out.later (below_drewN (Below.refl _ _) 1))) ?_
                intro U0 hU0 hS0
                have HA0 := Lib.hid (show AW IsT w w1 m wb X U0 from by rw [hU0]; exact HAk.out.later (below_drewN (Below.refl _ _) 1))
                clear hU0 hS0
                refine lexH_yieldE rfl rfl ?_
                apply Exists.intro
                refine ⟨fun W hW => ?_, ?_⟩
                focus (go_simp; exact rfl)
                simp only [List.getElem_toArray, List.getElem_cons_zero, Act.put, List.setIfInBounds_toArray, List.set_cons_zero, List.set_cons_succ]
                refine lexH_yieldE rfl rfl ?_
                apply Exists.intro
                refine ⟨fun W hW => ?_, ?_⟩
                focus (go_simp; exact rfl)
                simp only [List.getElem_toArray, List.getElem_cons_succ, List.getElem_cons_zero, Act.put, List.setIfInBounds_toArray, List.set_cons_zero, List.set_cons_succ]
                refine lexH_yieldE rfl rfl ?_
                apply Exists.intro
                refine ⟨fun W hW => ?_, ?_⟩
                focus (go_simp; exact rfl)
                simp only [List.getElem_toArray, List.getElem_cons_succ, List.getElem_cons_zero, Act.put, List.setIfInBounds_toArray, List.set_cons_zero, List.set_cons_succ]
                refine lexH_yieldE rfl rfl ?_
                apply Exists.intro
                refine ⟨fun W hW => ?_, ?_⟩
                focus (go_simp; exact rfl)
                simp only [List.getElem_toArray, List.getElem_cons_succ, List.getElem_cons_zero, Act.put, List.setIfInBounds_toArray, List.set_cons_zero, List.set_cons_succ]
                refine lexH_load rfl rfl _ _ rfl rfl LP.out ?_
                simp only [List.getElem_toArray, List.getElem_cons_succ, List.getElem_cons_zero, Act.put, List.setIfInBounds_toArray, List.set_cons_zero, List.set_cons_succ]
                refine lexH_yieldE rfl rfl ?_
                apply Exists.intro
                refine ⟨fun W hW => ?_, ?_⟩
                focus (go_simp; exact rfl)
                simp only [List.getElem_toArray, List.getElem_cons_succ, List.getElem_cons_zero, Act.put, List.setIfInBounds_toArray, List.set_cons_zero, List.set_cons_succ]
                refine lexH_yieldE rfl rfl ?_
                apply Exists.intro
                refine ⟨fun W hW => ?_, ?_⟩
                focus (go_simp; exact rfl)
                simp only [List.getElem_toArray, List.getElem_cons_succ, List.getElem_cons_zero, Act.put, List.setIfInBounds_toArray, List.set_cons_zero, List.set_cons_succ]
                refine lexH_yieldE rfl rfl ?_
                apply Exists.intro
                refine ⟨fun W hW => ?_, ?_⟩
                focus (go_simp; exact rfl)
                simp only [List.getElem_toArray, List.getElem_cons_succ, List.getElem_cons_zero, Act.put, List.setIfInBounds_toArray, List.set_cons_zero, List.set_cons_succ]
                refine lexH_load rfl rfl _ _ rfl rfl LE.out ?_
                simp only [List.getElem_toArray, List.getElem_cons_succ, List.getElem_cons_zero, Act.put, List.setIfInBounds_toArray, List.set_cons_zero, List.set_cons_succ]
                refine lexH_call 14 #[.pointer (some ⟨m, 0, none⟩), .int .i64 0, .int .i64 p, .agg #[.int .u8 x1, .int .i64 x2]] rfl rfl ?_ ?_
                focus (go_simp; done)
                refine (set_mkp ok HA0.out.mem p x1 x1 x2 rfl HPI.out HEI.out.1 HEI.out.2 2 X HC.out HE.out).mono ?_
                rintro e U1 ⟨rfl, hm, ho⟩
                have HB1' := Lib.hid (show Below w.heap.size w U1 from HAk.out.b0.trans (hm.mk.bel.mono HAk.out.b0.size))
                have HS1 := Lib.hid (show U1.cell? ⟨gp, op + k, none⟩ = some (.int .i64 p) ∧ U1.cell? ⟨ge, oe + k * 2, none⟩ = some (.int .u8 x1) ∧ U1.cell? ⟨ge, oe + k * 2 + 1, none⟩ = some (.int .i64 x2) from ⟨HPA.out U1 HB1'.out, HEA.out U1 HB1'.out⟩)
                have HA1 := Lib.hid (HA0.out.turn hm ho rfl)
                clear hm ho
                refine ⟨_, rfl, HS1.out, ?_⟩
                simp only [List.getElem_toArray, List.getElem_cons_succ, List.getElem_cons_zero, Act.put, List.setIfInBounds_toArray, List.set_cons_zero, List.set_cons_succ]
                refine lexH_yieldE rfl rfl ?_
                apply Exists.intro
                refine ⟨fun W hW => ?_, ?_⟩
                focus (go_simp; exact rfl)
                simp only [List.getElem_toArray, List.getElem_cons_succ, List.getElem_cons_zero, Act.put, List.setIfInBounds_toArray, List.set_cons_zero, List.set_cons_succ]
                refine lexH_nil ?_
                have kp := HS1.out.1
                have ke0 := HS1.out.2.1
                have ke1 := HS1.out.2.2
                go_wp2_with (fail)
                refine (word_I ok.toWordOk U1 x1 x1 x2 v ev rfl HEI.out.1 HEI.out.2 HV.out HEV.out).mono ?_
                rintro e U2 ⟨rfl, hb⟩
                have HB2' := Lib.hid (HB1'.out.trans (hb.mono HB1'.out.size))
                have HA2 := Lib.hid (HA1.out.later hb)
                have HS2 := Lib.hid (show U2.cell? ⟨gp, op + k, none⟩ = some (.int .i64 p) ∧ U2.cell? ⟨ge, oe + k * 2, none⟩ = some (.int .u8 x1) ∧ U2.cell? ⟨ge, oe + k * 2 + 1, none⟩ = some (.int .i64 x2) from ⟨HPA.out U2 HB2'.out, HEA.out U2 HB2'.out⟩)
                clear hb kp ke0 ke1
                have kp := HS2.out.1
                go_wp2_with (fail)
                have HAB := HA2
                clear HA0 HA1 HA2 HS1 HS2 kp
                go_loopw [4, 114] (fun r i wr => ∃ q : Nat, q ≤ 96 ∧ r = .bool false ∧ i = .int .i64 q ∧ Hid (AW IsT w w1 m wb X wr)) (fun _ i _ => 96 - (intOf i).toNat)
                case atStart => exact ⟨0, Nat.zero_le _, rfl, rfl, HAB⟩
                case round =>
                  clear HAB
                  obtain ⟨q, hq, rfl, rfl, HAq⟩ := hrel
                  by_cases hlq : q < 96
                  · have hlqI : (q : Int) < 96 := by omega
                    obtain ⟨y, hx⟩ : ∃ y, getX (r3 3) (X) q = y := ⟨_, rfl⟩
                    obtain ⟨y1, y2⟩ := y
                    have HX := Lib.hid hx
                    have HX2 := Lib.hid (show (X) (q / 32 + 1) (q % 32) = (y1, y2) from by rw [← get_r3 (X) q hlq]; exact hx)
                    clear hx
                    go_wp2_with (fail)
                    refine (get_mk ok HAq.out.mem.mk q q rfl (by omega) y1 y2 HX.out).mono ?_
                    rintro e w8 ⟨rfl, hb⟩
                    have HAr := Lib.hid (HAq.out.later hb)
                    clear hb HAq
                    obtain ⟨w9, hw9⟩ : ∃ w9, (w8.alloc (.cells #[.int .u8 y1, .int .i64 y2] 23)) = w9 := ⟨_, rfl⟩
                    have HA9 := Lib.hid (show AW IsT w w1 m wb (X) w9 from by rw [← hw9]; exact HAr.out.later ((Below.refl _ _).alloc (Nat.le_refl _) _))
                    have d0 : w9.cell? ⟨w8.heap.size, 0, none⟩ = some (.int .u8 y1) := by rw [← hw9]; exact (ent_row w8 (y1, y2)).cell 0 (by decide)
                    have d1 : w9.cell? ⟨w8.heap.size, 1, none⟩ = some (.int .i64 y2) := by rw [← hw9]; exact (ent_row w8 (y1, y2)).cell 1 (by decide)
                    have c0 : w9.cell? ⟨wb, q * 2, none⟩ = some (.int .u8 y1) := by
                      rw [HA9.out.row.cell (q * 2) (by omega)]
                      unfold wtV
                      rw [show q * 2 / 2 = q by omega, HX2.out, show q * 2 % 2 = 0 by omega]
                      rfl
                    have c1 : w9.cell? ⟨wb, q * 2 + 1, none⟩ = some (.int .i64 y2) := by
                      rw [HA9.out.row.cell (q * 2 + 1) (by omega)]
                      unfold wtV
                      rw [show (q * 2 + 1) / 2 = q by omega, HX2.out, show (q * 2 + 1) % 2 = 1 by omega]
                      rfl
                    clear HAr
                    go_wp2_with (fail)
                    go_quiet (fail)
                    have HA10 := Lib.hid (HA9.out.later (below_drewN (Below.refl _ _) nq))
                    clear HA9 c0 c1 d0 d1 hw9
                    generalize w9.drewN nq = w10 at *
                    go_wp2_with (fail)
                    go_roundw
                    case rel => exact ⟨q + 1, hlq, rfl, by go_num, HA10⟩
                    case measure => first | (simp [intOf]; omega) | simp [intOf]
                  · obtain rfl : q = 96 := by omega
                    clear hlq hq
                    go_wp2_with (fail)
                    go_roundw
                    case rel => exact ⟨k + 1, X, hlt, rfl, by go_num, HAq⟩
                    case measure => first | (simp [intOf]; omega) | simp [intOf]
              · have hhi : ¬ p < 96 := by omega
                have hloI : 0 ≤ p := by omega
                have hr : r3 3 (p.toNat / 32) = 0 := if_neg (by omega)
                obtain ⟨cc, hcc⟩ : ∃ cc, (if Pg p ∧ entOk (x1, x2) then (if r3 3 (p.toNat / 32) = 0 then 7 else 0) else 2) = (cc : Int) := ⟨_, rfl⟩
                have hc0 : (cc == 0) = false := by
                  rw [beq_eq_false_iff_ne, ← hcc]
                  by_cases h : Pg p ∧ entOk (x1, x2)
                  · rw [if_pos h, if_pos hr]; decide
                  · rw [if_neg h]; decide
                have HC := Lib.hid hcc
                have HE := Lib.hid (show (if Pg p ∧ entOk (x1, x2) ∧ r3 3 (p.toNat / 32) ≠ 0 then setX X (r3 3 (p.toNat / 32)) (p.toNat % 32) (x1, x2) else X) = X from if_neg fun h => h.2.2 hr)
                clear hcc hr hin
                have HSA := Lib.hid (show ∀ U, AW IsT w w1 m wb X U → U.cell? ⟨gp, op + k, none⟩ = some (.int .i64 p) ∧ U.cell? ⟨ge, oe + k * 2, none⟩ = some (.int .u8 x1) ∧ U.cell? ⟨ge, oe + k * 2 + 1, none⟩ = some (.int .i64 x2) from fun U hU => ⟨HPA.out U hU.bel, HEA.out U hU.bel⟩)
                have LP := Lib.hid (show ∀ U, U.cell? ⟨gp, op + k, none⟩ = some (.int .i64 p) ∧ U.cell? ⟨ge, oe + k * 2, none⟩ = some (.int .u8 x1) ∧ U.cell? ⟨ge, oe + k * 2 + 1, none⟩ = some (.int .i64 x2) → (loadVar 3 ⟨gp, op + k, none⟩).run Try.prog U = .ok (.int .i64 p) U from fun U hU => run_loadVar_cell (fun _ => by kernel_rfl) hU.1)
                have LE := Lib.hid (show ∀ U, U.cell? ⟨gp, op + k, none⟩ = some (.int .i64 p) ∧ U.cell? ⟨ge, oe + k * 2, none⟩ = some (.int .u8 x1) ∧ U.cell? ⟨ge, oe + k * 2 + 1, none⟩ = some (.int .i64 x2) → (loadVar 23 ⟨ge, oe + k * 2, none⟩).run Try.prog U = .ok (.agg #[.int .u8 x1, .int .i64 x2]) U from fun U hU => load_ent hU.2.1 hU.2.2)
                go_wp2_with (fail)
                refine wp_region_lex1 (fun U => U.cell? ⟨gp, op + k, none⟩ = some (.int .i64 p) ∧ U.cell? ⟨ge, oe + k * 2, none⟩ = some (.int .u8 x1) ∧ U.cell? ⟨ge, oe + k * 2 + 1, none⟩ = some (.int .i64 x2)) [(0, false), (1, false), (2, false), (3, false), (4, false), (5, false), (6, false), (7, false), (8, false), (9, true), (10, false)] (by kernel_rfl) (by kernel_rfl) rfl (by kernel_rfl) (HSA.out _ (HAk.out.later (below_drewN (Below.refl _ _) 1))) ?_
                intro U0 hU0 hS0
                have HA0 := Lib.hid (show AW IsT w w1 m wb X U0 from by rw [hU0]; exact HAk.out.later (below_drewN (Below.refl _ _) 1))
                clear hU0 hS0
                refine lexH_yieldE rfl rfl ?_
                apply Exists.intro
                refine ⟨fun W hW => ?_, ?_⟩
                focus (go_simp; exact rfl)
                simp only [List.getElem_toArray, List.getElem_cons_zero, Act.put, List.setIfInBounds_toArray, List.set_cons_zero, List.set_cons_succ]
                refine lexH_yieldE rfl rfl ?_
                apply Exists.intro
                refine ⟨fun W hW => ?_, ?_⟩
                focus (go_simp; exact rfl)
                simp only [List.getElem_toArray, List.getElem_cons_succ, List.getElem_cons_zero, Act.put, List.setIfInBounds_toArray, List.set_cons_zero, List.set_cons_succ]
                refine lexH_yieldE rfl rfl ?_
                apply Exists.intro
                refine ⟨fun W hW => ?_, ?_⟩
                focus (go_simp; exact rfl)
                simp only [List.getElem_toArray, List.getElem_cons_succ, List.getElem_cons_zero, Act.put, List.setIfInBounds_toArray, List.set_cons_zero, List.set_cons_succ]
                refine lexH_yieldE rfl rfl ?_
                apply Exists.intro
                refine ⟨fun W hW => ?_, ?_⟩
                focus (go_simp; exact rfl)
                simp only [List.getElem_toArray, List.getElem_cons_succ, List.getElem_cons_zero, Act.put, List.setIfInBounds_toArray, List.set_cons_zero, List.set_cons_succ]
                refine lexH_load rfl rfl _ _ rfl rfl LP.out ?_
                simp only [List.getElem_toArray, List.getElem_cons_succ, List.getElem_cons_zero, Act.put, List.setIfInBounds_toArray, List.set_cons_zero, List.set_cons_succ]
                refine lexH_yieldE rfl rfl ?_
                apply Exists.intro
                refine ⟨fun W hW => ?_, ?_⟩
                focus (go_simp; exact rfl)
                simp only [List.getElem_toArray, List.getElem_cons_succ, List.getElem_cons_zero, Act.put, List.setIfInBounds_toArray, List.set_cons_zero, List.set_cons_succ]
                refine lexH_yieldE rfl rfl ?_
                apply Exists.intro
                refine ⟨fun W hW => ?_, ?_⟩
                focus (go_simp; exact rfl)
                simp only [List.getElem_toArray, List.getElem_cons_succ, List.getElem_cons_zero, Act.put, List.setIfInBounds_toArray, List.set_cons_zero, List.set_cons_succ]
                refine lexH_yieldE rfl rfl ?_
                apply Exists.intro
                refine ⟨fun W hW => ?_, ?_⟩
                focus (go_simp; exact rfl)
                simp only [List.getElem_toArray, List.getElem_cons_succ, List.getElem_cons_zero, Act.put, List.setIfInBounds_toArray, List.set_cons_zero, List.set_cons_succ]
                refine lexH_load rfl rfl _ _ rfl rfl LE.out ?_
                simp only [List.getElem_toArray, List.getElem_cons_succ, List.getElem_cons_zero, Act.put, List.setIfInBounds_toArray, List.set_cons_zero, List.set_cons_succ]
                refine lexH_call 14 #[.pointer (some ⟨m, 0, none⟩), .int .i64 0, .int .i64 p, .agg #[.int .u8 x1, .int .i64 x2]] rfl rfl ?_ ?_
                focus (go_simp; done)
                refine (set_mkp ok HA0.out.mem p x1 x1 x2 rfl HPI.out HEI.out.1 HEI.out.2 cc X HC.out HE.out).mono ?_
                rintro e U1 ⟨rfl, hm, ho⟩
                have HB1' := Lib.hid (show Below w.heap.size w U1 from HAk.out.b0.trans (hm.mk.bel.mono HAk.out.b0.size))
                have HS1 := Lib.hid (show U1.cell? ⟨gp, op + k, none⟩ = some (.int .i64 p) ∧ U1.cell? ⟨ge, oe + k * 2, none⟩ = some (.int .u8 x1) ∧ U1.cell? ⟨ge, oe + k * 2 + 1, none⟩ = some (.int .i64 x2) from ⟨HPA.out U1 HB1'.out, HEA.out U1 HB1'.out⟩)
                have HA1 := Lib.hid (HA0.out.turn hm ho rfl)
                clear hm ho
                refine ⟨_, rfl, HS1.out, ?_⟩
                simp only [List.getElem_toArray, List.getElem_cons_succ, List.getElem_cons_zero, Act.put, List.setIfInBounds_toArray, List.set_cons_zero, List.set_cons_succ]
                refine lexH_yieldE rfl rfl ?_
                apply Exists.intro
                refine ⟨fun W hW => ?_, ?_⟩
                focus (go_simp; exact rfl)
                simp only [List.getElem_toArray, List.getElem_cons_succ, List.getElem_cons_zero, Act.put, List.setIfInBounds_toArray, List.set_cons_zero, List.set_cons_succ]
                refine lexH_nil ?_
                have kp := HS1.out.1
                have ke0 := HS1.out.2.1
                have ke1 := HS1.out.2.2
                go_wp2_with (fail)
                refine (word_I ok.toWordOk U1 x1 x1 x2 v ev rfl HEI.out.1 HEI.out.2 HV.out HEV.out).mono ?_
                rintro e U2 ⟨rfl, hb⟩
                have HB2' := Lib.hid (HB1'.out.trans (hb.mono HB1'.out.size))
                have HA2 := Lib.hid (HA1.out.later hb)
                have HS2 := Lib.hid (show U2.cell? ⟨gp, op + k, none⟩ = some (.int .i64 p) ∧ U2.cell? ⟨ge, oe + k * 2, none⟩ = some (.int .u8 x1) ∧ U2.cell? ⟨ge, oe + k * 2 + 1, none⟩ = some (.int .i64 x2) from ⟨HPA.out U2 HB2'.out, HEA.out U2 HB2'.out⟩)
                clear hb kp ke0 ke1
                have kp := HS2.out.1
                go_wp2_with (fail)
                have HAB := HA2
                clear HA0 HA1 HA2 HS1 HS2 kp
                go_loopw [4, 114] (fun r i wr => ∃ q : Nat, q ≤ 96 ∧ r = .bool false ∧ i = .int .i64 q ∧ Hid (AW IsT w w1 m wb X wr)) (fun _ i _ => 96 - (intOf i).toNat)
                case atStart => exact ⟨0, Nat.zero_le _, rfl, rfl, HAB⟩
                case round =>
                  clear HAB
                  obtain ⟨q, hq, rfl, rfl, HAq⟩ := hrel
                  by_cases hlq : q < 96
                  · have hlqI : (q : Int) < 96 := by omega
                    obtain ⟨y, hx⟩ : ∃ y, getX (r3 3) (X) q = y := ⟨_, rfl⟩
                    obtain ⟨y1, y2⟩ := y
                    have HX := Lib.hid hx
                    have HX2 := Lib.hid (show (X) (q / 32 + 1) (q % 32) = (y1, y2) from by rw [← get_r3 (X) q hlq]; exact hx)
                    clear hx
                    go_wp2_with (fail)
                    refine (get_mk ok HAq.out.mem.mk q q rfl (by omega) y1 y2 HX.out).mono ?_
                    rintro e w8 ⟨rfl, hb⟩
                    have HAr := Lib.hid (HAq.out.later hb)
                    clear hb HAq
                    obtain ⟨w9, hw9⟩ : ∃ w9, (w8.alloc (.cells #[.int .u8 y1, .int .i64 y2] 23)) = w9 := ⟨_, rfl⟩
                    have HA9 := Lib.hid (show AW IsT w w1 m wb (X) w9 from by rw [← hw9]; exact HAr.out.later ((Below.refl _ _).alloc (Nat.le_refl _) _))
                    have d0 : w9.cell? ⟨w8.heap.size, 0, none⟩ = some (.int .u8 y1) := by rw [← hw9]; exact (ent_row w8 (y1, y2)).cell 0 (by decide)
                    have d1 : w9.cell? ⟨w8.heap.size, 1, none⟩ = some (.int .i64 y2) := by rw [← hw9]; exact (ent_row w8 (y1, y2)).cell 1 (by decide)
                    have c0 : w9.cell? ⟨wb, q * 2, none⟩ = some (.int .u8 y1) := by
                      rw [HA9.out.row.cell (q * 2) (by omega)]
                      unfold wtV
                      rw [show q * 2 / 2 = q by omega, HX2.out, show q * 2 % 2 = 0 by omega]
                      rfl
                    have c1 : w9.cell? ⟨wb, q * 2 + 1, none⟩ = some (.int .i64 y2) := by
                      rw [HA9.out.row.cell (q * 2 + 1) (by omega)]
                      unfold wtV
                      rw [show (q * 2 + 1) / 2 = q by omega, HX2.out, show (q * 2 + 1) % 2 = 1 by omega]
                      rfl
                    clear HAr
                    go_wp2_with (fail)
                    go_quiet (fail)
                    have HA10 := Lib.hid (HA9.out.later (below_drewN (Below.refl _ _) nq))
                    clear HA9 c0 c1 d0 d1 hw9
                    generalize w9.drewN nq = w10 at *
                    go_wp2_with (fail)
                    go_roundw
                    case rel => exact ⟨q + 1, hlq, rfl, by go_num, HA10⟩
                    case measure => first | (simp [intOf]; omega) | simp [intOf]
                  · obtain rfl : q = 96 := by omega
                    clear hlq hq
                    go_wp2_with (fail)
                    go_roundw
                    case rel => exact ⟨k + 1, X, hlt, rfl, by go_num, HAq⟩
                    case measure => first | (simp [intOf]; omega) | simp [intOf]
          · obtain rfl : k = len := by omega
            clear hlt hk
            go_wp2_with (fail)
            refine (known_any ok wr).mono ?_
            rintro e w9 ⟨rfl, hb⟩
            have HB9 := Lib.hid (HAk.out.bel.trans (hb.mono HAk.out.bel.size))
            clear hb
            go_wp2_with (fail)
            go_ret
            exact ⟨rfl, HB9.out⟩
  · have HBA := Lib.hid (HB1.out.trans (HK2.out.bel.mono HB1.out.size))
    by_cases hl1 : 100 < len
    · have hl1I : (100 : Int) < len := by omega
      clear hl
      go_wp2_with (fail)
      refine (known_any ok w2).mono ?_
      rintro e w9 ⟨rfl, hb⟩
      have HB9 := Lib.hid (HBA.out.trans (hb.mono HBA.out.size))
      clear hb
      go_wp2_with (fail)
      go_ret
      exact ⟨rfl, HB9.out⟩
    · have hl1I : ¬ (100 : Int) < len := by omega
      have hl2I : (len2 : Int) < len := by omega
      clear hl
      go_wp2_with (fail)
      refine (known_any ok w2).mono ?_
      rintro e w9 ⟨rfl, hb⟩
      have HB9 := Lib.hid (HBA.out.trans (hb.mono HBA.out.size))
      clear hb
      go_wp2_with (fail)
      go_ret
      exact ⟨rfl, HB9.out⟩
end
end Go.Proofs.Ytnjdcgjaffageaa
