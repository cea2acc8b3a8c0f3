/-
  The walk of DeviceLast: it returns true, and below the old heap nothing has turned.
-/
import Derived.Test.YtadjkanjlkammaaDvCopies
import Derived.Test.YtadjkanjlkammaaDvOps
import Derived.Test.YtadjkanjlkammaaStr
namespace Go.Proofs.Ytadjkanjlkammaa
open Go.RowKit Go

theorem row_strs {w w1 : World} {n : Nat} {e : TypeId} (h : w1.ownsRow w.heap.size e 1 (.slice (some ⟨w.heap.size, 0, none⟩) n n) n (madeCells #[Value.string ByteArray.empty] n).toList) : RowAt w1 w.heap.size n (fun _ => Value.string ByteArray.empty) := by
  rw [show madeCells #[Value.string ByteArray.empty] n = madeCells #[Value.string ByteArray.empty] (n * 1) by rw [Nat.mul_one]] at h
  obtain ⟨g, cap, hv, _, _, _, R⟩ := RowAt.of_owns h (fun _ => Value.string ByteArray.empty) (fun i hi => by
    rw [made_at _ _ _ hi]
    have : i % (#[Value.string ByteArray.empty] : Array Value).size = 0 := Nat.mod_one i
    rw [this]; rfl) (by intro h; cases h)
  cases hv
  rw [Nat.mul_one] at R; exact R

/-- The first k are strings of noughts. -/
def begunV (k j : Nat) : Value := if j < k then .string (strB 256 (fun _ => 0)) else .string ByteArray.empty
theorem begunV_step (n k : Nat) : ∀ i, i < n → updV (begunV k) k (.string (strB 256 (fun _ => 0))) i = begunV (k + 1) i := by
  intro i _
  unfold updV begunV
  by_cases h : i = k
  · subst h; rw [if_pos rfl, if_pos (by omega)]
  · rw [if_neg h]
    by_cases h1 : i < k
    · rw [if_pos h1, if_pos (by omega)]
    · rw [if_neg h1, if_neg (by omega)]
/-- What each slot has, as a string. -/
def slotV (B : Nat → UInt8) (k : Nat) : Value := .string (strB 256 (fun i => B (k * 256 + i)))
theorem slotV_here (B : Nat → UInt8) (f n : Nat) (x : Nat → UInt8) : ∀ i, i < n → updV (slotV B) f (.string (strB 256 x)) i = slotV (putB B (f * 256) 256 x) i := by
  intro i _
  unfold updV slotV
  by_cases h : i = f
  · subst h; rw [if_pos rfl]; exact congrArg _ (strB_ext (fun j hj => (put_here j hj).symm))
  · rw [if_neg h]; exact congrArg _ (strB_ext (fun j hj => (put_else h j hj).symm))

/-- A device at D, and at g what each of its slots has. -/
structure LastAt (w : World) (D : DB) (g : Nat) (F : Nat → Value) (B : Nat → UInt8) (wr : World) : Prop where
  dev : DevAt wr D B
  row : RowAt wr g D.n F
  bel : Below w.heap.size w wr
  g1 : w.heap.size ≤ g
  d1 : w.heap.size ≤ D.sb
  n1 : g ≠ D.d
  n2 : g ≠ D.sb
theorem LastAt.later {w : World} {D : DB} {g : Nat} {F : Nat → Value} {B : Nat → UInt8} {wr w' : World} (L : LastAt w D g F B wr) (h : Below wr.heap.size wr w') : LastAt w D g F B w' :=
  ⟨L.dev.later h, L.row.later h, L.bel.trans (h.mono L.bel.size), L.g1, L.d1, L.n1, L.n2⟩
theorem LastAt.wrote {w : World} {D : DB} {g : Nat} {F : Nat → Value} {B B' : Nat → UInt8} {wr w' : World} (L : LastAt w D g F B wr) (H : DevAt w' D B') (h : Only (Eq D.sb) wr w') : LastAt w D g F B' w' :=
  ⟨H, L.row.only h (fun e => L.n2 e.symm), h.below L.bel L.bel.size (fun k hk => by have := L.d1; omega), L.g1, L.d1, L.n1, L.n2⟩
theorem LastAt.set {w : World} {D : DB} {g : Nat} {F F' : Nat → Value} {B : Nat → UInt8} {wr : World} (L : LastAt w D g F B wr) (k : Nat) (v : Value) (hF : ∀ i, i < D.n → updV F k v i = F' i) : LastAt w D g F' B (wr.setCell ⟨g, k, none⟩ v) :=
  ⟨L.dev.only (Only.setCell wr ⟨g, k, none⟩ rfl v) L.n1 L.n2, (L.row.setCell k v).ext hF, L.bel.setCell (p := ⟨g, k, none⟩) L.g1 v, L.g1, L.d1, L.n1, L.n2⟩

set_option maxRecDepth 100000 in
set_option maxHeartbeats 4000000 in
theorem lawLast_any (slots : Int) (a : Option Addr) (len cap : Nat) (O : Nat → Op4) (w : World) (HO : OpsAt w a len O) :
    Calls Try.prog 6 #[.int .i64 slots, .slice a len cap] w fun e w' => e = .returned (.bool true) ∧ Below w.heap.size w w' := by
  have HO := Lib.hid HO
  by_cases hin : 1 ≤ slots ∧ slots ≤ 40 ∧ len ≤ 60
  · obtain ⟨h1, h2, h3⟩ := hin
    obtain ⟨i0, hi, hz0, hz1, hz2⟩ := info_parts infoStr
    go_enter Try.func6, Try.ntmps6
    go_wp2_with (fail)
    refine (new_any slots w).mono ?_
    rintro e w1 ⟨D, rfl, H, hn, d1, d2, hb⟩
    have hDS : slots = ((D.n : Nat) : Int) := by rw [hn]; exact (clampS_in (by omega) (by omega)).symm
    subst hDS
    have HB1 := Lib.hid hb
    have H1 := Lib.hid H
    have hlt := H.lt
    have hs1 := hb.size
    clear hb H hn
    go_wp2_with (at_make; refine wpList_make_full _ rfl _ _ 29 rfl w1.heap.size 9 i0 (.string ByteArray.empty) 1 Try.underlying29 hi hz0 hz1 .i64 .i64 _ _ D.n rfl rfl rfl rfl ?c3 ?c4 ?c5 ?_)
    case c3 => rw [hz2]; omega
    case c4 => unfold maxLen; omega
    case c5 => exact Nat.le_refl _
    intro w2 hown hg
    have hb2 := below_grown hg
    have hL : LastAt w D w1.heap.size (begunV 0) (fun _ => 0) w2 := ⟨H1.out.later hb2, (row_strs hown).ext (fun i _ => rfl), HB1.out.trans (hb2.mono hs1), hs1, d2, by omega, by omega⟩
    have HL := Lib.hid hL
    clear hown hg hi hz0 hz1 hz2 hb2 hL
    generalize w1.heap.size = g at HL ⊢
    clear HB1 H1 hlt hs1 d1 d2
    go_wp2_with (fail)
    go_loopw [33] (fun i wr => ∃ k : Nat, k ≤ D.n ∧ i = .int .i64 k ∧ LastAt w D g (begunV k) (fun _ => 0) wr) (fun i _ => D.n - (intOf i).toNat)
    case atStart => exact ⟨0, Nat.zero_le _, rfl, HL.out⟩
    case round =>
      clear HL
      obtain ⟨k, hk, rfl, hL⟩ := hrel
      have HL := Lib.hid hL
      clear hL
      by_cases hlt : k < D.n
      · go_wp2_with (fail)
        refine (page_any (Src.nil wr none (fun _ => 0)) (by decide)).mono ?_
        rintro e w3 ⟨g3, c3, rfl, hg3, _, hr, hb⟩
        have hL3 := HL.out.later hb
        have hs := run_string (c := c3) hr
        rw [show strB 256 (padB 0 fun _ => 0) = strB 256 (fun _ => 0) from strB_ext (fun i _ => by unfold padB; rw [if_neg (by omega)])] at hs
        have c := hL3.row.cell k hlt
        have f := hL3.row.frozen k
        have HN := Lib.hid (hL3.set (F' := begunV (k + 1)) k (.string (strB 256 (fun _ => 0))) (begunV_step _ k))
        clear hr hb hL3 hg3
        go_wp2_with (fail)
        go_roundw
        case rel => exact ⟨k + 1, hlt, by go_num, HN.out⟩
        case measure => simp [intOf]; omega
      · obtain rfl : k = D.n := by omega
        have HL2 := Lib.hid (show LastAt w D g (slotV (fun _ => 0)) (fun _ => 0) wr from ⟨HL.out.dev, HL.out.row.ext (fun i hi => by unfold begunV slotV; rw [if_pos hi]), HL.out.bel, HL.out.g1, HL.out.d1, HL.out.n1, HL.out.n2⟩)
        clear HL
        go_wp2_with (fail)
        go_loopw [44] (fun i wr => ∃ (k : Nat) (B : Nat → UInt8), k ≤ len ∧ i = .int .i64 k ∧ LastAt w D g (slotV B) B wr) (fun i _ => len - (intOf i).toNat)
        case atStart => exact ⟨0, _, Nat.zero_le _, rfl, HL2.out⟩
        case round =>
          clear HL2
          obtain ⟨k, B, hk, rfl, hL⟩ := hrel
          have HL := Lib.hid hL
          clear hL
          by_cases hlt : k < len
          · obtain ⟨b, o, rfl, hr0, hS0, _⟩ := HO.out k hlt
            have HC := Lib.hid (show ∀ W, Below w.heap.size w W → W.rangeAt b (o + k * 5) (O k).cells ∧ Src W (O k).bp (O k).bl (O k).x from fun W hb => by
              obtain ⟨b', o', e, h1, h2, _⟩ := HO.out.later hb k hlt
              injection e with e
              injection e with e1 e2 e3
              subst e1; subst e2
              exact ⟨h1, h2⟩)
            clear hr0 hS0
            generalize O k = op at HC
            obtain ⟨kind, sl, bp, bl, bc, x, short, fail⟩ := op
            have c1 : wr.cell? ⟨b, o + k * 5 + 1, none⟩ = some (.int .i64 sl) := (HC.out wr HL.out.bel).1 1 _ rfl
            have c2 : wr.cell? ⟨b, o + k * 5 + 2, none⟩ = some (.slice bp bl bc) := (HC.out wr HL.out.bel).1 2 _ rfl
            by_cases hbl : bl ≤ 256
            · obtain ⟨f, hf, ef⟩ := u64_mod sl D.n h1 (by omega)
              have hfD : f < D.n := by omega
              clear hf
              go_wp2_with (fail)
              clear ef
              refine (page_any (HC.out wr HL.out.bel).2 hbl).mono ?_
              rintro e w3 ⟨g3, c3, rfl, hg3, _, hr, hb⟩
              have HL3 := Lib.hid (HL.out.later hb)
              have HR3 := Lib.hid hr
              have c4 : w3.cell? ⟨b, o + k * 5 + 4, none⟩ = some (.bool fail) := (HC.out w3 HL3.out.bel).1 4 _ rfl
              have hgs := HL.out.dev.lt.2
              clear hr hb c1 c2 HL
              cases fail with
              | true =>
                go_wp2_with (fail)
                refine (write_fail HL3.out.dev f ⟨by omega, by omega⟩ _ c3).mono ?_
                rintro e w' ⟨rfl, rfl⟩
                go_wp2_with (fail)
                go_roundw
                case rel => exact ⟨k + 1, B, hlt, by go_num, HL3.out⟩
                case measure => simp [intOf]; omega
              | false =>
                go_wp2_with (fail)
                refine (write_ok HL3.out.dev f hfD _ c3 _ (Src.row HR3.out)).mono ?_
                rintro e w4 ⟨rfl, H, ho⟩
                have hL4 := HL3.out.wrote H ho
                have c5 : w4.cell? ⟨b, o + k * 5 + 4, none⟩ = some (.bool false) := (HC.out w4 hL4.bel).1 4 _ rfl
                have hs := run_string (c := c3) (HR3.out.only ho (by omega))
                have c := hL4.row.cell f hfD
                have fz := hL4.row.frozen f
                have HN := Lib.hid (hL4.set (F' := slotV (putB B (f * 256) 256 (padB bl x))) f (.string (strB 256 (padB bl x))) (slotV_here B f D.n _))
                unfold slotV at c
                clear H ho hL4 HL3 c4
                go_wp2_with (fail)
                go_roundw
                case rel => exact ⟨k + 1, _, hlt, by go_num, HN.out⟩
                case measure => simp [intOf]; omega
            · have HB := Lib.hid HL.out.bel
              go_wp2_with (fail)
              refine (known_any wr).mono ?_
              rintro e w9 ⟨rfl, hb⟩
              have HB2 := Lib.hid (HB.out.trans (hb.mono HB.out.size))
              clear hb c1 c2
              go_wp2_with (fail)
              go_ret
              exact ⟨rfl, HB2.out⟩
          · obtain rfl : k = len := by omega
            clear HO
            go_wp2_with (fail)
            go_loopw [117] (fun i wr => ∃ k : Nat, k ≤ D.n ∧ i = .int .i64 k ∧ LastAt w D g (slotV B) B wr) (fun i _ => D.n - (intOf i).toNat)
            case atStart => exact ⟨0, Nat.zero_le _, rfl, HL.out⟩
            case round =>
              clear HL
              obtain ⟨k, hk, rfl, hL⟩ := hrel
              have HL := Lib.hid hL
              clear hL
              by_cases hlt : k < D.n
              · go_wp2_with (fail)
                refine (read_ok HL.out.dev k hlt (fun i => B (k * 256 + i)) (fun i _ => rfl)).mono ?_
                rintro e w3 ⟨g3, c3, rfl, hg3, hr, hb⟩
                have HL3 := Lib.hid (HL.out.later hb)
                have L1 := Lib.hid (show ∀ W, Kept w3.heap.size w3 W → (convert 32 9 (.slice (some ⟨g3, 0, none⟩) 256 c3)).run Try.prog W = .ok (.string (strB 256 (fun i => B (k * 256 + i)))) W from
                  fun W hW => run_string (hr.later hW.below))
                have L2 := Lib.hid (show ∀ W, Kept w3.heap.size w3 W → (loadVar 9 ⟨g, k, none⟩).run Try.prog W = .ok (.string (strB 256 (fun i => B (k * 256 + i)))) W from
                  fun W hW => run_loadVar_cell agg9 ((HL3.out.row.later hW.below).cell k hlt))
                clear hr hb HL hg3
                go_wp2_with (fail)
                refine wp_region_lex (Kept w3.heap.size w3) [(0, false), (1, false), (2, false), (3, false), (4, false), (5, false), (6, false), (7, false), (8, false), (9, false), (10, false)]
                  (by kernel_rfl) (by kernel_rfl) rfl (by kernel_rfl) ⟨rfl, rfl, rfl, Nat.le_refl _, fun _ _ => rfl⟩ ?_
                intro W0 hK0
                refine lexH_yieldE rfl rfl ?_
                apply Exists.intro
                refine ⟨fun W hW => ?_, ?_⟩
                focus (go_simp; exact rfl)
                simp only [List.getElem_toArray, List.getElem_cons_zero, Act.put, List.setIfInBounds_toArray, List.set_cons_zero, List.set_cons_succ]
                refine lexH_yieldE rfl rfl ?_
                apply Exists.intro
                refine ⟨fun W hW => ?_, ?_⟩
                focus (go_simp; exact rfl)
                simp only [List.getElem_toArray, List.getElem_cons_succ, List.getElem_cons_zero, Act.put, List.setIfInBounds_toArray, List.set_cons_zero, List.set_cons_succ]
                refine lexH_yieldE rfl rfl ?_
                apply Exists.intro
                refine ⟨fun W hW => ?_, ?_⟩
                focus (go_simp; exact rfl)
                simp only [List.getElem_toArray, List.getElem_cons_succ, List.getElem_cons_zero, Act.put, List.setIfInBounds_toArray, List.set_cons_zero, List.set_cons_succ]
                refine lexH_yieldE rfl rfl ?_
                apply Exists.intro
                refine ⟨fun W hW => ?_, ?_⟩
                focus (go_simp; exact rfl)
                simp only [List.getElem_toArray, List.getElem_cons_succ, List.getElem_cons_zero, Act.put, List.setIfInBounds_toArray, List.set_cons_zero, List.set_cons_succ]
                refine lexH_conv rfl rfl _ _ _ rfl rfl L1.out ?_
                simp only [List.getElem_toArray, List.getElem_cons_succ, List.getElem_cons_zero, Act.put, List.setIfInBounds_toArray, List.set_cons_zero, List.set_cons_succ]
                refine lexH_yieldE rfl rfl ?_
                apply Exists.intro
                refine ⟨fun W hW => ?_, ?_⟩
                focus (go_simp; exact rfl)
                simp only [List.getElem_toArray, List.getElem_cons_succ, List.getElem_cons_zero, Act.put, List.setIfInBounds_toArray, List.set_cons_zero, List.set_cons_succ]
                refine lexH_yieldE rfl rfl ?_
                apply Exists.intro
                refine ⟨fun W hW => ?_, ?_⟩
                focus (go_simp; exact rfl)
                simp only [List.getElem_toArray, List.getElem_cons_succ, List.getElem_cons_zero, Act.put, List.setIfInBounds_toArray, List.set_cons_zero, List.set_cons_succ]
                refine lexH_yieldE rfl rfl ?_
                apply Exists.intro
                refine ⟨fun W hW => ?_, ?_⟩
                focus (go_simp; exact rfl)
                simp only [List.getElem_toArray, List.getElem_cons_succ, List.getElem_cons_zero, Act.put, List.setIfInBounds_toArray, List.set_cons_zero, List.set_cons_succ]
                refine lexH_load rfl rfl _ _ rfl rfl L2.out ?_
                simp only [List.getElem_toArray, List.getElem_cons_succ, List.getElem_cons_zero, Act.put, List.setIfInBounds_toArray, List.set_cons_zero, List.set_cons_succ]
                refine lexH_yieldE rfl rfl ?_
                apply Exists.intro
                refine ⟨fun W hW => ?_, ?_⟩
                focus (go_simp; exact rfl)
                simp only [List.getElem_toArray, List.getElem_cons_succ, List.getElem_cons_zero, Act.put, List.setIfInBounds_toArray, List.set_cons_zero, List.set_cons_succ]
                refine lexH_yieldE rfl rfl ?_
                apply Exists.intro
                refine ⟨fun W hW => ?_, ?_⟩
                focus (go_simp; exact rfl)
                simp only [List.getElem_toArray, List.getElem_cons_succ, List.getElem_cons_zero, Act.put, List.setIfInBounds_toArray, List.set_cons_zero, List.set_cons_succ]
                refine lexH_nil ?_
                have HL4 := Lib.hid (HL3.out.later hK0.below)
                clear hK0 HL3 L1 L2
                go_wp2_with (fail)
                go_roundw
                case rel => exact ⟨k + 1, hlt, by go_num, HL4.out⟩
                case measure => simp [intOf]; omega
              · obtain rfl : k = D.n := by omega
                have HB := Lib.hid HL.out.bel
                go_wp2_with (fail)
                refine (known_any wr).mono ?_
                rintro e w9 ⟨rfl, hb⟩
                have HB2 := Lib.hid (HB.out.trans (hb.mono HB.out.size))
                clear hb
                go_wp2_with (fail)
                go_ret
                exact ⟨rfl, HB2.out⟩
  · have hcs : slots < 1 ∨ (1 ≤ slots ∧ 40 < slots) ∨ (1 ≤ slots ∧ slots ≤ 40 ∧ 60 < len) := by omega
    clear hin
    rcases hcs with h1 | ⟨h1, h2⟩ | ⟨h1, h2, h3⟩
    all_goals
      go_enter Try.func6, Try.ntmps6
      go_wp2_with (fail)
      refine (known_any w).mono ?_
      rintro e w9 ⟨rfl, hb⟩
      have HB2 := Lib.hid hb
      clear hb
      go_wp2_with (fail)
      go_ret
      exact ⟨rfl, HB2.out⟩
end Go.Proofs.Ytadjkanjlkammaa
