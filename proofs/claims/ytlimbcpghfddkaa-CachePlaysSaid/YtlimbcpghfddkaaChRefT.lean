/-
  chain's document: Take.
-/
import Derived.Test.YtlimbcpghfddkaaChRefW
namespace Go.Proofs.Ytlimbcpghfddkaa
open Go.RowKit Go

theorem putB_zero (f : Nat → UInt8) (o : Nat) (x : Nat → UInt8) : putB f o 0 x = f := by
  funext i
  unfold putB
  rw [if_neg (by omega)]
theorem putB_next (f : Nat → UInt8) (o k : Nat) (c : UInt8) : updC (putB f o k fun _ => c) (o + k) c = putB f o (k + 1) fun _ => c := by
  funext i
  unfold updC putB
  by_cases h : i = o + k
  · subst h
    rw [if_pos rfl, if_pos (by omega)]
  · rw [if_neg h]
    by_cases h2 : o ≤ i ∧ i < o + k
    · rw [if_pos h2, if_pos (by omega)]
    · rw [if_neg h2, if_neg (by omega)]
section
variable {w w' : World} {r bb bc : Nat} {S : Sl} {v : Value}
/-- Two answers, and a slab. -/
def CTPost (w : World) (r bb bc : Nat) (q : Int × Int × Sl) (e : Ending) (w' : World) : Prop :=
  e = .returned (.tuple #[.int .i64 q.1, .int .i64 q.2.1]) ∧ (∃ v', CRef w' r bb bc q.2.2 v') ∧ Only (fun k => k = r ∨ k = bb) w w'
/-- The block of a chain that is not empty. -/
def inC (v : Value) (k : Nat) : Prop := ∃ o n c, v = .slice (some ⟨k, o, none⟩) n c ∧ 0 < n
/-- .. and where its chain lies. -/
def CTPostB (w : World) (r bb bc : Nat) (C : Nat → Prop) (q : Int × Int × Sl) (e : Ending) (w' : World) : Prop :=
  e = .returned (.tuple #[.int .i64 q.1, .int .i64 q.2.1]) ∧ (∃ v', CRef w' r bb bc q.2.2 v' ∧ ∀ k, inC v' k → C k) ∧ Only (fun k => k = r ∨ k = bb) w w'
/-- While an object is made noughts. -/
def tkS (S : Sl) (i : Nat) (l : List Nat) (k : Nat) : Sl := { S with ch := l, out := updC S.out i true, bt := putB S.bt (S.pos i) k (fun _ => 0) }
set_option maxRecDepth 100000 in
set_option maxHeartbeats 4000000 in
theorem rtakeB_any (R : CRef w r bb bc S v) (I : SlI S) {C : Nat → Prop} (hC : ∀ k, inC v k → C k) :
    Calls Try.prog 44 #[.pointer (some ⟨r, 0, none⟩)] w (CTPostB w r bb bc C S.take) := by
  have HI := Lib.hid I
  have HC := Lib.hid hC
  have c4 := R.c4
  obtain ⟨a, c, hv, hlc, hch⟩ := R.chn
  rw [hv] at c4
  have h8 := I.parts
  cases hS : S.ch with
  | nil =>
    have hz : S.take = (0, 9, S) := by unfold Sl.take; rw [hS]
    rw [hz]
    rw [hS] at c4
    have HP := Lib.hid (show CTPostB w r bb bc C (0, 9, S) (.returned (.tuple #[.int .i64 0, .int .i64 9])) w from ⟨rfl, ⟨v, R, HC.out⟩, Only.refl _ _⟩)
    clear hz hch I R h8 hC HC
    go_enter Try.func44, Try.ntmps44
    go_wp2_with (fail)
    go_ret2
    exact HP.out
  | cons i l =>
    have hi : i < S.n := I.lt i (by rw [hS]; simp)
    have hz : S.take = ((i : Int), 0, { S with ch := l, out := updC S.out i true, bt := putB S.bt (S.pos i) S.sz (fun _ => 0) }) := by unfold Sl.take; rw [hS]
    rw [hz]
    rw [hS] at c4 hch
    obtain ⟨b, o, rfl, hbr, hbb, ce⟩ := hch 0 (by simp)
    have ce1 : w.cell? ⟨b, o, none⟩ = some (.int .i64 i) := ce
    have hi32 : (i : Int) < 32 := by omega
    have co := R.co (i := i) (by omega)
    have fo : w.frozen? ⟨r, 5 + i, none⟩ = false := R.row.frozen _
    have f4 : w.frozen? ⟨r, 4, none⟩ = false := R.row.frozen _
    have c1 := R.c1
    have hlenI : ((l.length + 1 : Nat) : Int) = (l.length : Int) + 1 := by omega
    have hl1 : ((i :: l).length) = l.length + 1 := rfl
    rw [hl1] at c4
    have hi1 : (i : Int) < (S.n : Int) := by omega
    clear ce
    by_cases hc1 : c = 1
    · subst hc1
      have hl0 : l = [] := List.eq_nil_of_length_eq_zero (by rw [hS] at hlc; have h : l.length + 1 ≤ 1 := hlc; omega)
      subst hl0
      have HIN := Lib.hid (show ∀ k, inC (.slice (some ⟨b, o, none⟩) 0 0) k → C k from fun k ⟨o2, n, c2, e, hn⟩ => by injection e with _ e _; omega)
      clear hC HC
      have hv' : ChIn w r bb (.slice (some ⟨b, o, none⟩) 0 0) [] := ⟨_, 0, rfl, Nat.le_refl _, fun j hj => absurd hj (Nat.not_lt_zero j)⟩
      have HR2 := Lib.hid (show CRef ((w.setCell ⟨r, 4, none⟩ (.slice (some ⟨b, o, none⟩) 0 0)).setCell ⟨r, 5 + i, none⟩ (.bool true)) r bb bc (tkS S i [] 0) (.slice (some ⟨b, o, none⟩) 0 0) by
        have h2 := ((R.setCh hv').1.setOut (i := i) (by omega) true).1
        unfold tkS
        rw [putB_zero]
        exact h2)
      have HO2 := Lib.hid (show Only (fun k => k = r ∨ k = bb) w ((w.setCell ⟨r, 4, none⟩ (.slice (some ⟨b, o, none⟩) 0 0)).setCell ⟨r, 5 + i, none⟩ (.bool true)) from
        ((R.setCh hv').2.trans ((R.setCh hv').1.setOut (i := i) (by omega) true).2).mono (fun k hk => .inl hk))
      clear hv' hch hlc
      go_enter Try.func44, Try.ntmps44
      go_wp2_with (fail)
      generalize (w.setCell ⟨r, 4, none⟩ (.slice (some ⟨b, o, none⟩) 0 0)).setCell ⟨r, 5 + i, none⟩ (.bool true) = w2 at *
      clear c4 ce1 co fo f4 c1
      go_loopw [5] (fun q wr => ∃ k : Nat, k ≤ S.sz ∧ q = .int .i64 k ∧ Hid (CRef wr r bb bc (tkS S i [] k) (.slice (some ⟨b, o, none⟩) 0 0)) ∧ Hid (Only (fun k => k = r ∨ k = bb) w wr)) (fun q _ => S.sz - (intOf q).toNat)
      case atStart => exact ⟨0, Nat.zero_le _, rfl, HR2, HO2⟩
      case round =>
        clear HR2 HO2
        obtain ⟨k, hk, rfl, HR, HO⟩ := hrel
        have c1 : wr.cell? ⟨r, 1, none⟩ = some (.int .i64 S.sz) := HR.out.c1
        by_cases hlt : k < S.sz
        · have hltI : (k : Int) < (S.sz : Int) := by omega
          have HLT := Lib.hid hlt
          have hfit := HI.out.fit hi
          have hp256 : S.pos i + k < 256 := by omega
          have hne := HR.out.ne
          have c0 := HR.out.c0
          have c2 : wr.cell? ⟨r, 2, none⟩ = some (.int .i64 S.co) := HR.out.c2
          have L0 := Lib.hid (show ∀ V, Only (fun k => k = bb) wr.drew V → (loadVar 34 ⟨r, 0, none⟩).run Try.prog V = .ok (.slice (some ⟨bb, 0, none⟩) 256 bc) V from fun V hV => run_loadVar_cell (fun _ => by kernel_rfl) (hV.cell hne (by exact c0)))
          have L1 := Lib.hid (show ∀ V, Only (fun k => k = bb) wr.drew V → (loadVar 3 ⟨r, 1, none⟩).run Try.prog V = .ok (.int .i64 S.sz) V from fun V hV => run_loadVar_cell (fun _ => by kernel_rfl) (hV.cell hne (by exact c1)))
          have L2 := Lib.hid (show ∀ V, Only (fun k => k = bb) wr.drew V → (loadVar 3 ⟨r, 2, none⟩).run Try.prog V = .ok (.int .i64 S.co) V from fun V hV => run_loadVar_cell (fun _ => by kernel_rfl) (hV.cell hne (by exact c2)))
          have HST := Lib.hid (show CRef (wr.drew.setCell ⟨bb, S.pos i + k, none⟩ (.int .u8 0)) r bb bc (tkS S i [] (k + 1)) (.slice (some ⟨b, o, none⟩) 0 0) ∧ Only (fun k => k = r ∨ k = bb) w (wr.drew.setCell ⟨bb, S.pos i + k, none⟩ (.int .u8 0)) by
            have h1 := (HR.out.later (Below.refl wr.heap.size wr).drew).setBt (p := S.pos i + k) 0
            refine ⟨?_, (HO.out.trans (Only.of_below (Below.refl wr.heap.size wr).drew)).trans (h1.2.mono (fun k hk => .inr hk))⟩
            have e1 := h1.1
            unfold tkS at e1 ⊢
            dsimp only at e1
            rw [putB_next] at e1
            exact e1)
          have hbc : wr.drew.cell? ⟨bb, S.pos i + k, none⟩ = some (byV (tkS S i [] k).bt (S.pos i + k)) := (HR.out.byt.later (Below.refl wr.heap.size wr).drew).cell _ hp256
          have hbf : wr.drew.frozen? ⟨bb, S.pos i + k, none⟩ = false := (HR.out.byt.later (Below.refl wr.heap.size wr).drew).frozen _
          unfold byV at hbc
          have hwe := wrap_pos (show S.pos i = S.co + i * S.sz from rfl) (show S.pos i < 256 by omega)
          have hpI : ((S.pos i : Int)) + (k : Int) < 256 := by omega
          have hwk : IntKind.i64.wrap ((S.pos i : Int) + (k : Int)) = ((S.pos i + k : Nat) : Int) := by rw [IntKind.wrap_i64]; omega
          obtain ⟨q, hq⟩ : ∃ q, S.pos i + k = q := ⟨_, rfl⟩
          rw [hq] at hwk HST hbc hbf hp256
          have hq256 : (q : Int) < 256 := by omega
          have hszI : (S.sz : Int) ≤ 128 := by omega
          clear c0 c2 HR HO h8 hlenI hl1 hq hpI hfit hp256
          generalize S.pos i = p at *
          generalize (tkS S i [] k).bt q = old at *
          generalize S.sz = sz at *
          generalize S.co = co at *
          go_wp2_with (fail)
          refine wp_region_lex1 (Only (fun k => k = bb) wr.drew) [(0, false), (1, false), (2, false), (3, false), (4, false), (5, false), (6, false), (7, false), (8, false), (9, false), (10, false), (11, false), (12, false), (13, false), (14, false), (15, false), (16, false), (17, false), (18, true)]
            (by kernel_rfl) (by kernel_rfl) rfl (by kernel_rfl) (Only.refl _ _) ?_
          intro V0 hV0 hK0
          clear hK0
          subst hV0
          generalize wr.drew = V0 at *
          refine lexH_yieldE rfl rfl ?_
          apply Exists.intro
          refine ⟨fun W hW => ?_, ?_⟩
          focus (go_simp; exact rfl)
          simp only [List.getElem_toArray, List.getElem_cons_zero, Act.put, List.setIfInBounds_toArray, List.set_cons_zero, List.set_cons_succ]
          refine lexH_yieldE rfl rfl ?_
          apply Exists.intro
          refine ⟨fun W hW => ?_, ?_⟩
          focus (go_simp; exact rfl)
          simp only [List.getElem_toArray, List.getElem_cons_succ, List.getElem_cons_zero, Act.put, List.setIfInBounds_toArray, List.set_cons_zero, List.set_cons_succ]
          refine lexH_yieldE rfl rfl ?_
          apply Exists.intro
          refine ⟨fun W hW => ?_, ?_⟩
          focus (go_simp; exact rfl)
          simp only [List.getElem_toArray, List.getElem_cons_succ, List.getElem_cons_zero, Act.put, List.setIfInBounds_toArray, List.set_cons_zero, List.set_cons_succ]
          refine lexH_load rfl rfl _ _ rfl rfl L0.out ?_
          simp only [List.getElem_toArray, List.getElem_cons_succ, List.getElem_cons_zero, Act.put, List.setIfInBounds_toArray, List.set_cons_zero, List.set_cons_succ]
          refine lexH_yieldE rfl rfl ?_
          apply Exists.intro
          refine ⟨fun W hW => ?_, ?_⟩
          focus (go_simp; exact rfl)
          simp only [List.getElem_toArray, List.getElem_cons_succ, List.getElem_cons_zero, Act.put, List.setIfInBounds_toArray, List.set_cons_zero, List.set_cons_succ]
          refine lexH_yieldE rfl rfl ?_
          apply Exists.intro
          refine ⟨fun W hW => ?_, ?_⟩
          focus (go_simp; exact rfl)
          simp only [List.getElem_toArray, List.getElem_cons_succ, List.getElem_cons_zero, Act.put, List.setIfInBounds_toArray, List.set_cons_zero, List.set_cons_succ]
          refine lexH_yieldE rfl rfl ?_
          apply Exists.intro
          refine ⟨fun W hW => ?_, ?_⟩
          focus (go_simp; exact rfl)
          simp only [List.getElem_toArray, List.getElem_cons_succ, List.getElem_cons_zero, Act.put, List.setIfInBounds_toArray, List.set_cons_zero, List.set_cons_succ]
          refine lexH_load rfl rfl _ _ rfl rfl L2.out ?_
          simp only [List.getElem_toArray, List.getElem_cons_succ, List.getElem_cons_zero, Act.put, List.setIfInBounds_toArray, List.set_cons_zero, List.set_cons_succ]
          refine lexH_yieldE rfl rfl ?_
          apply Exists.intro
          refine ⟨fun W hW => ?_, ?_⟩
          focus (go_simp; exact rfl)
          simp only [List.getElem_toArray, List.getElem_cons_succ, List.getElem_cons_zero, Act.put, List.setIfInBounds_toArray, List.set_cons_zero, List.set_cons_succ]
          refine lexH_yieldE rfl rfl ?_
          apply Exists.intro
          refine ⟨fun W hW => ?_, ?_⟩
          focus (go_simp; exact rfl)
          simp only [List.getElem_toArray, List.getElem_cons_succ, List.getElem_cons_zero, Act.put, List.setIfInBounds_toArray, List.set_cons_zero, List.set_cons_succ]
          refine lexH_yieldE rfl rfl ?_
          apply Exists.intro
          refine ⟨fun W hW => ?_, ?_⟩
          focus (go_simp; exact rfl)
          simp only [List.getElem_toArray, List.getElem_cons_succ, List.getElem_cons_zero, Act.put, List.setIfInBounds_toArray, List.set_cons_zero, List.set_cons_succ]
          refine lexH_yieldE rfl rfl ?_
          apply Exists.intro
          refine ⟨fun W hW => ?_, ?_⟩
          focus (go_simp; exact rfl)
          simp only [List.getElem_toArray, List.getElem_cons_succ, List.getElem_cons_zero, Act.put, List.setIfInBounds_toArray, List.set_cons_zero, List.set_cons_succ]
          refine lexH_load rfl rfl _ _ rfl rfl L1.out ?_
          simp only [List.getElem_toArray, List.getElem_cons_succ, List.getElem_cons_zero, Act.put, List.setIfInBounds_toArray, List.set_cons_zero, List.set_cons_succ]
          refine lexH_yieldE rfl rfl ?_
          apply Exists.intro
          refine ⟨fun W hW => ?_, ?_⟩
          focus (go_simp; exact rfl)
          simp only [List.getElem_toArray, List.getElem_cons_succ, List.getElem_cons_zero, Act.put, List.setIfInBounds_toArray, List.set_cons_zero, List.set_cons_succ]
          refine lexH_yieldE rfl rfl ?_
          apply Exists.intro
          refine ⟨fun W hW => ?_, ?_⟩
          focus (go_simp; exact rfl)
          simp only [List.getElem_toArray, List.getElem_cons_succ, List.getElem_cons_zero, Act.put, List.setIfInBounds_toArray, List.set_cons_zero, List.set_cons_succ]
          refine lexH_yieldE rfl rfl ?_
          apply Exists.intro
          refine ⟨fun W hW => ?_, ?_⟩
          focus (go_simp; exact rfl)
          simp only [List.getElem_toArray, List.getElem_cons_succ, List.getElem_cons_zero, Act.put, List.setIfInBounds_toArray, List.set_cons_zero, List.set_cons_succ]
          refine lexH_yieldE rfl rfl ?_
          apply Exists.intro
          refine ⟨fun W hW => ?_, ?_⟩
          focus (go_simp; exact rfl)
          simp only [List.getElem_toArray, List.getElem_cons_succ, List.getElem_cons_zero, Act.put, List.setIfInBounds_toArray, List.set_cons_zero, List.set_cons_succ]
          refine lexH_yieldE rfl rfl ?_
          apply Exists.intro
          refine ⟨fun W hW => ?_, ?_⟩
          focus (go_simp; exact rfl)
          simp only [List.getElem_toArray, List.getElem_cons_succ, List.getElem_cons_zero, Act.put, List.setIfInBounds_toArray, List.set_cons_zero, List.set_cons_succ]
          refine lexH_eff rfl rfl ?_
          unfold Oper.wp
          go_simp
          refine ⟨Only.setCell (S := fun k => k = bb) _ ⟨bb, q, none⟩ rfl _, ?_⟩
          clear L0 L1 L2
          refine lexH_nil ?_
          go_wp2_with (fail)
          go_roundw
          case rel => exact ⟨k + 1, HLT.out, by go_num, HST.out.1, HST.out.2⟩
          case measure => simp [intOf]; omega
        · obtain rfl : k = S.sz := by omega
          go_wp2_with (fail)
          go_ret2
          exact ⟨rfl, ⟨_, HR.out, HIN.out⟩, HO.out⟩
    · have hlc1 : l.length + 1 ≤ c := by rw [hS] at hlc; exact hlc
      obtain ⟨cm, rfl⟩ : ∃ cm, c = cm + 1 := ⟨c - 1, by omega⟩
      have HIN := Lib.hid (show ∀ k, inC (.slice (some ⟨b, o + 1, none⟩) l.length cm) k → C k from fun k ⟨o2, n, c2, e, hn⟩ => by
        injection e with e _ _
        injection e with e
        injection e with e _ _
        subst e
        exact HC.out _ ⟨o, S.ch.length, _, hv, by rw [hS]; simp⟩)
      clear hC HC
      have hv' : ChIn w r bb (.slice (some ⟨b, o + 1, none⟩) l.length cm) l := ⟨_, _, rfl, by omega, fun j hj => by
        obtain ⟨b', o', e', h1, h2, h3⟩ := hch (j + 1) (by simpa using hj)
        injection e' with e'
        injection e' with e1 e2 _
        subst e1
        subst e2
        refine ⟨b, o + 1, rfl, h1, h2, ?_⟩
        rw [show o + 1 + j = o + (j + 1) by omega]
        exact h3⟩
      have HR2 := Lib.hid (show CRef ((w.setCell ⟨r, 4, none⟩ (.slice (some ⟨b, o + 1, none⟩) l.length cm)).setCell ⟨r, 5 + i, none⟩ (.bool true)) r bb bc (tkS S i l 0) (.slice (some ⟨b, o + 1, none⟩) l.length cm) by
        have h2 := ((R.setCh hv').1.setOut (i := i) (by omega) true).1
        unfold tkS
        rw [putB_zero]
        exact h2)
      have HO2 := Lib.hid (show Only (fun k => k = r ∨ k = bb) w ((w.setCell ⟨r, 4, none⟩ (.slice (some ⟨b, o + 1, none⟩) l.length cm)).setCell ⟨r, 5 + i, none⟩ (.bool true)) from
        ((R.setCh hv').2.trans ((R.setCh hv').1.setOut (i := i) (by omega) true).2).mono (fun k hk => .inl hk))
      clear hv' hch hlc hl1 hlc1
      generalize l.length = ln at *
      have hb0 : ((ln : Int) + 1 == 0) = false := by simp; omega
      go_enter Try.func44, Try.ntmps44
      go_wp2_with (fail)
      generalize (w.setCell ⟨r, 4, none⟩ (.slice (some ⟨b, o + 1, none⟩) ln cm)).setCell ⟨r, 5 + i, none⟩ (.bool true) = w2 at *
      clear c4 ce1 co fo f4 c1
      go_loopw [5] (fun q wr => ∃ k : Nat, k ≤ S.sz ∧ q = .int .i64 k ∧ Hid (CRef wr r bb bc (tkS S i l k) (.slice (some ⟨b, o + 1, none⟩) ln cm)) ∧ Hid (Only (fun k => k = r ∨ k = bb) w wr)) (fun q _ => S.sz - (intOf q).toNat)
      case atStart => exact ⟨0, Nat.zero_le _, rfl, HR2, HO2⟩
      case round =>
        clear HR2 HO2
        obtain ⟨k, hk, rfl, HR, HO⟩ := hrel
        have c1 : wr.cell? ⟨r, 1, none⟩ = some (.int .i64 S.sz) := HR.out.c1
        by_cases hlt : k < S.sz
        · have hltI : (k : Int) < (S.sz : Int) := by omega
          have HLT := Lib.hid hlt
          have hfit := HI.out.fit hi
          have hp256 : S.pos i + k < 256 := by omega
          have hne := HR.out.ne
          have c0 := HR.out.c0
          have c2 : wr.cell? ⟨r, 2, none⟩ = some (.int .i64 S.co) := HR.out.c2
          have L0 := Lib.hid (show ∀ V, Only (fun k => k = bb) wr.drew V → (loadVar 34 ⟨r, 0, none⟩).run Try.prog V = .ok (.slice (some ⟨bb, 0, none⟩) 256 bc) V from fun V hV => run_loadVar_cell (fun _ => by kernel_rfl) (hV.cell hne (by exact c0)))
          have L1 := Lib.hid (show ∀ V, Only (fun k => k = bb) wr.drew V → (loadVar 3 ⟨r, 1, none⟩).run Try.prog V = .ok (.int .i64 S.sz) V from fun V hV => run_loadVar_cell (fun _ => by kernel_rfl) (hV.cell hne (by exact c1)))
          have L2 := Lib.hid (show ∀ V, Only (fun k => k = bb) wr.drew V → (loadVar 3 ⟨r, 2, none⟩).run Try.prog V = .ok (.int .i64 S.co) V from fun V hV => run_loadVar_cell (fun _ => by kernel_rfl) (hV.cell hne (by exact c2)))
          have HST := Lib.hid (show CRef (wr.drew.setCell ⟨bb, S.pos i + k, none⟩ (.int .u8 0)) r bb bc (tkS S i l (k + 1)) (.slice (some ⟨b, o + 1, none⟩) ln cm) ∧ Only (fun k => k = r ∨ k = bb) w (wr.drew.setCell ⟨bb, S.pos i + k, none⟩ (.int .u8 0)) by
            have h1 := (HR.out.later (Below.refl wr.heap.size wr).drew).setBt (p := S.pos i + k) 0
            refine ⟨?_, (HO.out.trans (Only.of_below (Below.refl wr.heap.size wr).drew)).trans (h1.2.mono (fun k hk => .inr hk))⟩
            have e1 := h1.1
            unfold tkS at e1 ⊢
            dsimp only at e1
            rw [putB_next] at e1
            exact e1)
          have hbc : wr.drew.cell? ⟨bb, S.pos i + k, none⟩ = some (byV (tkS S i l k).bt (S.pos i + k)) := (HR.out.byt.later (Below.refl wr.heap.size wr).drew).cell _ hp256
          have hbf : wr.drew.frozen? ⟨bb, S.pos i + k, none⟩ = false := (HR.out.byt.later (Below.refl wr.heap.size wr).drew).frozen _
          unfold byV at hbc
          have hwe := wrap_pos (show S.pos i = S.co + i * S.sz from rfl) (show S.pos i < 256 by omega)
          have hpI : ((S.pos i : Int)) + (k : Int) < 256 := by omega
          have hwk : IntKind.i64.wrap ((S.pos i : Int) + (k : Int)) = ((S.pos i + k : Nat) : Int) := by rw [IntKind.wrap_i64]; omega
          obtain ⟨q, hq⟩ : ∃ q, S.pos i + k = q := ⟨_, rfl⟩
          rw [hq] at hwk HST hbc hbf hp256
          have hq256 : (q : Int) < 256 := by omega
          have hszI : (S.sz : Int) ≤ 128 := by omega
          clear c0 c2 HR HO h8 hlenI hq hpI hfit hp256
          generalize S.pos i = p at *
          generalize (tkS S i l k).bt q = old at *
          generalize S.sz = sz at *
          generalize S.co = co at *
          go_wp2_with (fail)
          refine wp_region_lex1 (Only (fun k => k = bb) wr.drew) [(0, false), (1, false), (2, false), (3, false), (4, false), (5, false), (6, false), (7, false), (8, false), (9, false), (10, false), (11, false), (12, false), (13, false), (14, false), (15, false), (16, false), (17, false), (18, true)]
            (by kernel_rfl) (by kernel_rfl) rfl (by kernel_rfl) (Only.refl _ _) ?_
          intro V0 hV0 hK0
          clear hK0
          subst hV0
          generalize wr.drew = V0 at *
          refine lexH_yieldE rfl rfl ?_
          apply Exists.intro
          refine ⟨fun W hW => ?_, ?_⟩
          focus (go_simp; exact rfl)
          simp only [List.getElem_toArray, List.getElem_cons_zero, Act.put, List.setIfInBounds_toArray, List.set_cons_zero, List.set_cons_succ]
          refine lexH_yieldE rfl rfl ?_
          apply Exists.intro
          refine ⟨fun W hW => ?_, ?_⟩
          focus (go_simp; exact rfl)
          simp only [List.getElem_toArray, List.getElem_cons_succ, List.getElem_cons_zero, Act.put, List.setIfInBounds_toArray, List.set_cons_zero, List.set_cons_succ]
          refine lexH_yieldE rfl rfl ?_
          apply Exists.intro
          refine ⟨fun W hW => ?_, ?_⟩
          focus (go_simp; exact rfl)
          simp only [List.getElem_toArray, List.getElem_cons_succ, List.getElem_cons_zero, Act.put, List.setIfInBounds_toArray, List.set_cons_zero, List.set_cons_succ]
          refine lexH_load rfl rfl _ _ rfl rfl L0.out ?_
          simp only [List.getElem_toArray, List.getElem_cons_succ, List.getElem_cons_zero, Act.put, List.setIfInBounds_toArray, List.set_cons_zero, List.set_cons_succ]
          refine lexH_yieldE rfl rfl ?_
          apply Exists.intro
          refine ⟨fun W hW => ?_, ?_⟩
          focus (go_simp; exact rfl)
          simp only [List.getElem_toArray, List.getElem_cons_succ, List.getElem_cons_zero, Act.put, List.setIfInBounds_toArray, List.set_cons_zero, List.set_cons_succ]
          refine lexH_yieldE rfl rfl ?_
          apply Exists.intro
          refine ⟨fun W hW => ?_, ?_⟩
          focus (go_simp; exact rfl)
          simp only [List.getElem_toArray, List.getElem_cons_succ, List.getElem_cons_zero, Act.put, List.setIfInBounds_toArray, List.set_cons_zero, List.set_cons_succ]
          refine lexH_yieldE rfl rfl ?_
          apply Exists.intro
          refine ⟨fun W hW => ?_, ?_⟩
          focus (go_simp; exact rfl)
          simp only [List.getElem_toArray, List.getElem_cons_succ, List.getElem_cons_zero, Act.put, List.setIfInBounds_toArray, List.set_cons_zero, List.set_cons_succ]
          refine lexH_load rfl rfl _ _ rfl rfl L2.out ?_
          simp only [List.getElem_toArray, List.getElem_cons_succ, List.getElem_cons_zero, Act.put, List.setIfInBounds_toArray, List.set_cons_zero, List.set_cons_succ]
          refine lexH_yieldE rfl rfl ?_
          apply Exists.intro
          refine ⟨fun W hW => ?_, ?_⟩
          focus (go_simp; exact rfl)
          simp only [List.getElem_toArray, List.getElem_cons_succ, List.getElem_cons_zero, Act.put, List.setIfInBounds_toArray, List.set_cons_zero, List.set_cons_succ]
          refine lexH_yieldE rfl rfl ?_
          apply Exists.intro
          refine ⟨fun W hW => ?_, ?_⟩
          focus (go_simp; exact rfl)
          simp only [List.getElem_toArray, List.getElem_cons_succ, List.getElem_cons_zero, Act.put, List.setIfInBounds_toArray, List.set_cons_zero, List.set_cons_succ]
          refine lexH_yieldE rfl rfl ?_
          apply Exists.intro
          refine ⟨fun W hW => ?_, ?_⟩
          focus (go_simp; exact rfl)
          simp only [List.getElem_toArray, List.getElem_cons_succ, List.getElem_cons_zero, Act.put, List.setIfInBounds_toArray, List.set_cons_zero, List.set_cons_succ]
          refine lexH_yieldE rfl rfl ?_
          apply Exists.intro
          refine ⟨fun W hW => ?_, ?_⟩
          focus (go_simp; exact rfl)
          simp only [List.getElem_toArray, List.getElem_cons_succ, List.getElem_cons_zero, Act.put, List.setIfInBounds_toArray, List.set_cons_zero, List.set_cons_succ]
          refine lexH_load rfl rfl _ _ rfl rfl L1.out ?_
          simp only [List.getElem_toArray, List.getElem_cons_succ, List.getElem_cons_zero, Act.put, List.setIfInBounds_toArray, List.set_cons_zero, List.set_cons_succ]
          refine lexH_yieldE rfl rfl ?_
          apply Exists.intro
          refine ⟨fun W hW => ?_, ?_⟩
          focus (go_simp; exact rfl)
          simp only [List.getElem_toArray, List.getElem_cons_succ, List.getElem_cons_zero, Act.put, List.setIfInBounds_toArray, List.set_cons_zero, List.set_cons_succ]
          refine lexH_yieldE rfl rfl ?_
          apply Exists.intro
          refine ⟨fun W hW => ?_, ?_⟩
          focus (go_simp; exact rfl)
          simp only [List.getElem_toArray, List.getElem_cons_succ, List.getElem_cons_zero, Act.put, List.setIfInBounds_toArray, List.set_cons_zero, List.set_cons_succ]
          refine lexH_yieldE rfl rfl ?_
          apply Exists.intro
          refine ⟨fun W hW => ?_, ?_⟩
          focus (go_simp; exact rfl)
          simp only [List.getElem_toArray, List.getElem_cons_succ, List.getElem_cons_zero, Act.put, List.setIfInBounds_toArray, List.set_cons_zero, List.set_cons_succ]
          refine lexH_yieldE rfl rfl ?_
          apply Exists.intro
          refine ⟨fun W hW => ?_, ?_⟩
          focus (go_simp; exact rfl)
          simp only [List.getElem_toArray, List.getElem_cons_succ, List.getElem_cons_zero, Act.put, List.setIfInBounds_toArray, List.set_cons_zero, List.set_cons_succ]
          refine lexH_yieldE rfl rfl ?_
          apply Exists.intro
          refine ⟨fun W hW => ?_, ?_⟩
          focus (go_simp; exact rfl)
          simp only [List.getElem_toArray, List.getElem_cons_succ, List.getElem_cons_zero, Act.put, List.setIfInBounds_toArray, List.set_cons_zero, List.set_cons_succ]
          refine lexH_eff rfl rfl ?_
          unfold Oper.wp
          go_simp
          refine ⟨Only.setCell (S := fun k => k = bb) _ ⟨bb, q, none⟩ rfl _, ?_⟩
          clear L0 L1 L2
          refine lexH_nil ?_
          go_wp2_with (fail)
          go_roundw
          case rel => exact ⟨k + 1, HLT.out, by go_num, HST.out.1, HST.out.2⟩
          case measure => simp [intOf]; omega
        · obtain rfl : k = S.sz := by omega
          go_wp2_with (fail)
          go_ret2
          exact ⟨rfl, ⟨_, HR.out, HIN.out⟩, HO.out⟩
theorem rtake_any (R : CRef w r bb bc S v) (I : SlI S) :
    Calls Try.prog 44 #[.pointer (some ⟨r, 0, none⟩)] w (CTPost w r bb bc S.take) :=
  (rtakeB_any R I (C := inC v) (fun _ h => h)).mono fun _ _ ⟨h1, ⟨v', h2, _⟩, h3⟩ => ⟨h1, ⟨v', h2⟩, h3⟩
end
end Go.Proofs.Ytlimbcpghfddkaa
