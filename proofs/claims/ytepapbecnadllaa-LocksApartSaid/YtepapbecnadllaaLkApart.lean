/-
  The walk of LocksApart: it returns true, and below the old heap nothing has turned.
-/
import Derived.Test.YtepapbecnadllaaLkStep
namespace Go.Proofs.Ytepapbecnadllaa
open Go.RowKit Go

/-- Whether a call turns the table, and to what. -/
def stepD (n : Nat) (H : Nat → Int) (o : Op3) : Bool := if o.kind = 1 then decide (freeE n H o.who o.lock = 0) else tryB n H o.who o.lock
def stepV (o : Op3) : Int := if o.kind = 1 then -1 else o.who
def doB (n : Nat) (H : Nat → Int) (o : Op3) : Bool := if o.kind = 1 then false else tryB n H o.who o.lock
def doE (n : Nat) (H : Nat → Int) (o : Op3) : Int := if o.kind = 1 then freeE n H o.who o.lock else tryE n H o.who o.lock
theorem stepD_yes {n : Nat} {H : Nat → Int} {o : Op3} (h : stepD n H o = true) : 0 ≤ o.who ∧ ∃ k : Nat, o.lock = k ∧ k < n ∧ (H k = o.who ∨ H k = -1) ∧ stepH n H o = updH H k (stepV o) := by
  unfold stepD at h
  by_cases hk : o.kind = 1
  · rw [if_pos hk, decide_eq_true_eq] at h
    obtain ⟨h1, k, e, h2, h3, h4⟩ := free_yes h
    exact ⟨h1, k, e, h2, .inl h3, by unfold stepH stepV; rw [if_pos hk, if_pos hk]; exact h4⟩
  · rw [if_neg hk] at h
    obtain ⟨h1, k, e, h2, h3, _, h4⟩ := try_yes h
    exact ⟨h1, k, e, h2, .inr h3, by unfold stepH stepV; rw [if_neg hk, if_neg hk]; exact h4⟩
theorem stepD_no {n : Nat} {H : Nat → Int} {o : Op3} (h : stepD n H o = false) : stepH n H o = H := by
  unfold stepD at h
  by_cases hk : o.kind = 1
  · rw [if_pos hk, decide_eq_false_iff_not] at h
    rw [stepH_free hk]; exact free_no h
  · rw [if_neg hk] at h
    rw [stepH_try hk]; exact try_no h
/-- What one's call does is nothing to another one's locks. -/
theorem step_else {n : Nat} {H : Nat → Int} {o : Op3} {x : Int} (h0 : 0 ≤ x) (hx : x ≠ o.who) (i : Nat) : stepH n H o i = x ↔ H i = x := by
  cases hd : stepD n H o with
  | false => rw [stepD_no hd]
  | true =>
    obtain ⟨h1, k, e, h2, h3, h4⟩ := stepD_yes hd
    rw [h4]
    unfold updH
    by_cases hi : i = k
    · subst hi
      rw [if_pos rfl]
      have hv : stepV o ≠ x := by
        unfold stepV
        split
        · omega
        · exact fun e => hx e.symm
      have hh : H i ≠ x := by
        rcases h3 with h | h
        · rw [h]; exact fun e => hx e.symm
        · rw [h]; omega
      exact ⟨fun h => absurd h hv, fun h => absurd h hh⟩
    · rw [if_neg hi]
theorem step_off {n : Nat} {H : Nat → Int} {o : Op3} (i : Nat) (hi : o.lock ≠ i) : stepH n H o i = H i := by
  cases hd : stepD n H o with
  | false => rw [stepD_no hd]
  | true =>
    obtain ⟨h1, k, e, h2, h3, h4⟩ := stepD_yes hd
    rw [h4]
    unfold updH
    rw [if_neg (fun h => by subst h; exact hi e)]
theorem from_else {n : Nat} {H : Nat → Int} {o : Op3} {x : Int} (h0 : 0 ≤ x) (hx : x ≠ o.who) (l : Nat) : fromB (stepH n H o) l x = fromB H l x := by
  cases hf : fromB H l x with
  | false => exact fromB_false fun i h1 h2 h => fromB_not hf i h1 h2 ((step_else h0 hx i).1 h)
  | true =>
    simp only [fromB, hasI, List.any_eq_true, List.mem_range, beq_iff_eq] at hf
    obtain ⟨i, h1, h2⟩ := hf
    exact fromB_true (l + i) (by omega) (by omega) ((step_else h0 hx (l + i)).2 h2)

section
variable {n : Nat} {H : Nat → Int} {a b : Op3}
theorem try_else (hw : a.who ≠ b.who) (hl : a.lock ≠ b.lock) : tryB n (stepH n H b) a.who a.lock = tryB n H a.who a.lock ∧ tryE n (stepH n H b) a.who a.lock = tryE n H a.who a.lock := by
  unfold tryB tryE
  by_cases ha : askB n a.who a.lock = true
  · obtain ⟨k, e, hk, h0⟩ := askB_nat ha
    rw [from_else h0 hw, step_off _ (by rw [e, Int.toNat_natCast, ← e]; exact fun h => hl h.symm)]
    exact ⟨rfl, rfl⟩
  · rw [if_neg ha, if_neg ha]
    simp only [Bool.not_eq_true] at ha
    rw [ha]
    exact ⟨rfl, rfl⟩
theorem free_else (hl : a.lock ≠ b.lock) : freeE n (stepH n H b) a.who a.lock = freeE n H a.who a.lock := by
  unfold freeE
  by_cases ha : askB n a.who a.lock = true
  · obtain ⟨k, e, hk, h0⟩ := askB_nat ha
    rw [step_off _ (by rw [e, Int.toNat_natCast, ← e]; exact fun h => hl h.symm)]
  · rw [if_neg ha, if_neg ha]
theorem do_else (hw : a.who ≠ b.who) (hl : a.lock ≠ b.lock) : doB n (stepH n H b) a = doB n H a ∧ doE n (stepH n H b) a = doE n H a ∧ stepD n (stepH n H b) a = stepD n H a := by
  unfold doB doE stepD
  rw [(try_else hw hl).1, (try_else hw hl).2, free_else hl]
  exact ⟨rfl, rfl, rfl⟩
theorem step_both (hw : a.who ≠ b.who) (hl : a.lock ≠ b.lock) : stepH n (stepH n H a) b = stepH n (stepH n H b) a := by
  have ea := (do_else (n := n) (H := H) hw hl).2.2
  have eb := (do_else (n := n) (H := H) (a := b) (b := a) (fun h => hw h.symm) (fun h => hl h.symm)).2.2
  cases ha : stepD n H a with
  | false => rw [stepD_no ha, stepD_no (ea.trans ha)]
  | true =>
    cases hb : stepD n H b with
    | false => rw [stepD_no hb, stepD_no (eb.trans hb)]
    | true =>
      obtain ⟨_, k, e, _, _, h4⟩ := stepD_yes ha
      obtain ⟨_, j, f, _, _, g4⟩ := stepD_yes hb
      obtain ⟨_, k', e', _, _, h5⟩ := stepD_yes (ea.trans ha)
      obtain ⟨_, j', f', _, _, g5⟩ := stepD_yes (eb.trans hb)
      obtain rfl : k = k' := by omega
      obtain rfl : j = j' := by omega
      rw [g5, h4, h5, g4]
      funext i
      unfold updH
      by_cases h1 : i = k
      · subst h1
        rw [if_neg (by omega), if_pos rfl, if_pos rfl]
      · rw [if_neg h1, if_neg h1]
end

/-- What the law's do leaves. -/
def DoAt (w : World) (d n : Nat) (H : Nat → Int) (o : Op3) (e : Ending) (w' : World) : Prop :=
  e = .returned (.tuple #[.bool (doB n H o), .int .i64 (doE n H o)]) ∧ LkAt w' d n (stepH n H o) ∧ Only (Eq d) w w'
theorem do_any {w : World} {d n : Nat} {H : Nat → Int} (L : LkAt w d n H) (o : Op3) :
    Calls Try.prog 22 #[.pointer (some ⟨d, 0, none⟩), .agg #[.int .i64 o.kind, .int .i64 o.who, .int .i64 o.lock]] w (DoAt w d n H o) := by
  obtain ⟨kind, who, lock⟩ := o
  have hb : Below w.heap.size w (w.alloc (.cells #[.int .i64 kind, .int .i64 who, .int .i64 lock] 33)) := (Below.refl _ w).alloc (Nat.le_refl _) _
  have HO := Lib.hid (Only.alloc (Eq d) w (.cells #[.int .i64 kind, .int .i64 who, .int .i64 lock] 33))
  have HL := Lib.hid (L.later hb)
  clear L hb
  by_cases hk : kind = 1
  · have HD := Lib.hid (show ∀ e w', FreeAt (w.alloc (.cells #[.int .i64 kind, .int .i64 who, .int .i64 lock] 33)) d n H who lock e w' → ∃ v : Int, e = .returned (.int .i64 v) ∧ DoAt w d n H ⟨kind, who, lock⟩ (.returned (.tuple #[.bool false, .int .i64 v])) w' from
      fun e w' ⟨he, hL, ho⟩ => ⟨_, he, by unfold doB doE; rw [if_pos hk, if_pos hk], by rw [stepH_free (by exact hk)]; exact hL, HO.out.trans ho⟩)
    subst hk
    go_enter Try.func22, Try.ntmps22
    go_wp2_with (fail)
    refine (free_at HL.out who lock).mono ?_
    intro e w1 h
    obtain ⟨v, rfl, h2⟩ := HD.out e w1 h
    have HD2 := Lib.hid h2
    clear h h2 HD
    go_wp2_with (fail)
    go_ret2
    exact HD2.out
  · have HD := Lib.hid (show ∀ e w', TryAt (w.alloc (.cells #[.int .i64 kind, .int .i64 who, .int .i64 lock] 33)) d n H who lock e w' → ∃ (u : Bool) (v : Int), e = .returned (.tuple #[.bool u, .int .i64 v]) ∧ DoAt w d n H ⟨kind, who, lock⟩ (.returned (.tuple #[.bool u, .int .i64 v])) w' from
      fun e w' ⟨he, hL, ho⟩ => ⟨_, _, he, by unfold doB doE; rw [if_neg hk, if_neg hk], by rw [stepH_try (by exact hk)]; exact hL, HO.out.trans ho⟩)
    have ek : (kind == 1) = false := by simpa using hk
    clear hk
    go_enter Try.func22, Try.ntmps22
    go_wp2_with (fail)
    refine (try_at HL.out who lock).mono ?_
    intro e w1 h
    obtain ⟨u, v, rfl, h2⟩ := HD.out e w1 h
    have HD2 := Lib.hid h2
    clear h h2 HD
    go_wp2_with (fail)
    go_ret2
    exact HD2.out

def opV (o : Op3) (j : Nat) : Value := o.cells.getD j undef
theorem op_row (w : World) (o : Op3) : RowAt (w.alloc (.cells #[.int .i64 o.kind, .int .i64 o.who, .int .i64 o.lock] 33)) w.heap.size 3 (opV o) :=
  RowAt.new w _ _ _ _ fun i hi => by
    rcases (show i = 0 ∨ i = 1 ∨ i = 2 by omega) with rfl | rfl | rfl <;> rfl

theorem op_three {w : World} {b : Nat} {o : Op3} (R : RowAt w b 3 (opV o)) : w.cell? ⟨b, 0, none⟩ = some (.int .i64 o.kind) ∧ w.cell? ⟨b, 1, none⟩ = some (.int .i64 o.who) ∧ w.cell? ⟨b, 2, none⟩ = some (.int .i64 o.lock) :=
  ⟨R.cell 0 (by decide), R.cell 1 (by decide), R.cell 2 (by decide)⟩
/-- Two tables beside one another. -/
structure TwAt (w : World) (d u n : Nat) (H G : Nat → Int) (wr : World) : Prop where
  one : LkAt wr d n H
  two : LkAt wr u n G
  bel : Below w.heap.size w wr
  d1 : w.heap.size ≤ d
  u1 : w.heap.size ≤ u
  ne : d ≠ u
theorem TwAt.first {w : World} {d u n : Nat} {H H' G : Nat → Int} {wr w' : World} (T : TwAt w d u n H G wr) (L : LkAt w' d n H') (h : Only (Eq d) wr w') : TwAt w d u n H' G w' :=
  ⟨L, T.two.only h T.ne, h.below T.bel T.bel.size (fun k hk => by have := T.d1; omega), T.d1, T.u1, T.ne⟩
theorem TwAt.second {w : World} {d u n : Nat} {H G G' : Nat → Int} {wr w' : World} (T : TwAt w d u n H G wr) (L : LkAt w' u n G') (h : Only (Eq u) wr w') : TwAt w d u n H G' w' :=
  ⟨T.one.only h (fun e => T.ne e.symm), L, h.below T.bel T.bel.size (fun k hk => by have := T.u1; omega), T.d1, T.u1, T.ne⟩

set_option maxRecDepth 100000 in
set_option maxHeartbeats 4000000 in
theorem lawApart_any (nn : Int) (a : Option Addr) (len cap : Nat) (O : Nat → Op3) (x y : Op3) (w : World) (hO : OpsAt w a len O) :
    Calls Try.prog 8 #[.int .i64 nn, .slice a len cap, .agg #[.int .i64 x.kind, .int .i64 x.who, .int .i64 x.lock], .agg #[.int .i64 y.kind, .int .i64 y.who, .int .i64 y.lock]] w fun e w' => e = .returned (.bool true) ∧ Below w.heap.size w w' := by
  have hbx : Below w.heap.size w (w.alloc (.cells #[.int .i64 x.kind, .int .i64 x.who, .int .i64 x.lock] 33)) := (Below.refl _ w).alloc (Nat.le_refl _) _
  have hs : (w.alloc (.cells #[.int .i64 x.kind, .int .i64 x.who, .int .i64 x.lock] 33)).heap.size = w.heap.size + 1 := by simp
  have hby : Below w.heap.size w ((w.alloc (.cells #[.int .i64 x.kind, .int .i64 x.who, .int .i64 x.lock] 33)).alloc (.cells #[.int .i64 y.kind, .int .i64 y.who, .int .i64 y.lock] 33)) := hbx.alloc (by omega) _
  have HX := Lib.hid ((op_row w x).alloc (.cells #[.int .i64 y.kind, .int .i64 y.who, .int .i64 y.lock] 33))
  have HY := Lib.hid (op_row (w.alloc (.cells #[.int .i64 x.kind, .int .i64 x.who, .int .i64 x.lock] 33)) y)
  rw [hs] at HY
  have HB0 := Lib.hid hby
  have HO := Lib.hid (hO.later hby)
  clear hO hbx hs hby
  have hcs : ((x.who == y.who) = false ∧ (x.lock == y.lock) = false ∧ len ≤ 60 ∧ x.who ≠ y.who ∧ x.lock ≠ y.lock) ∨ 60 < len ∨ (len ≤ 60 ∧ (x.who == y.who) = true) ∨ (len ≤ 60 ∧ (x.who == y.who) = false ∧ (x.lock == y.lock) = true) := by
    by_cases h1 : 60 < len
    · exact .inr (.inl h1)
    · by_cases h2 : x.who = y.who
      · exact .inr (.inr (.inl ⟨by omega, by simp [h2]⟩))
      · by_cases h3 : x.lock = y.lock
        · exact .inr (.inr (.inr ⟨by omega, by simpa using h2, by simp [h3]⟩))
        · exact .inl ⟨by simpa using h2, by simpa using h3, by omega, h2, h3⟩
  rcases hcs with ⟨e1, e2, h3, h1, h2⟩ | h1 | ⟨h1, h2⟩ | ⟨h1, h2, h3⟩
  · have HW := Lib.hid h1
    have HK := Lib.hid h2
    clear h1 h2
    go_enter Try.func8, Try.ntmps8
    go_wp2_with (fail)
    generalize ((w.alloc (.cells #[.int .i64 x.kind, .int .i64 x.who, .int .i64 x.lock] 33)).alloc (.cells #[.int .i64 y.kind, .int .i64 y.who, .int .i64 y.lock] 33)) = w0 at *
    clear e1 e2
    refine (new_any nn w0).mono ?_
    rintro e w1 ⟨d, rfl, L, d1, hb⟩
    have HL := Lib.hid (show StAt w0 d (clampL nn) (fun _ => -1) w1 from ⟨L, hb, d1⟩)
    generalize clampL nn = n at HL
    clear L hb
    go_wp2_with (fail)
    go_loopw [44] (fun i wr => ∃ (k : Nat) (H : Nat → Int), k ≤ len ∧ i = .int .i64 k ∧ StAt w0 d n H wr) (fun i _ => len - (intOf i).toNat)
    case atStart => exact ⟨0, _, Nat.zero_le _, rfl, HL.out⟩
    case round =>
      clear HL
      obtain ⟨k, H, hk, rfl, hL⟩ := hrel
      have HL := Lib.hid hL
      clear hL
      by_cases hlt : k < len
      · obtain ⟨b, o, rfl, hbl, hc⟩ := HO.out.one k hlt
        have HC := Lib.hid hc
        have c0 := (HC.out wr HL.out.bel).1
        clear hc
        have L1 := Lib.hid (show ∀ W, Kept w0.heap.size w0 W → (loadVar 3 ⟨b, o + k * 3 + 1, none⟩).run Try.prog W = .ok (.int .i64 (O k).who) W from
          fun W hW => run_loadVar_cell (fun _ => by kernel_rfl) (HC.out W hW.below).2.1)
        have L2 := Lib.hid (show ∀ W, Kept w0.heap.size w0 W → (loadVar 3 ⟨b, o + k * 3 + 2, none⟩).run Try.prog W = .ok (.int .i64 (O k).lock) W from
          fun W hW => run_loadVar_cell (fun _ => by kernel_rfl) (HC.out W hW.below).2.2)
        clear HC
        generalize (O k).who = who at L1
        generalize (O k).lock = lock at L2
        generalize (O k).kind = z at c0
        by_cases hk1 : z = 1
        · subst hk1
          go_wp2_with (fail)
          clear c0
          refine wp_region_lex1 (Kept w0.heap.size w0) [(0, false), (1, false), (2, false), (3, false), (4, false), (5, false), (6, false), (7, false), (8, false), (9, false), (10, false), (11, true)]
            (by kernel_rfl) (by kernel_rfl) rfl (by kernel_rfl) HL.out.bel.drew ?_
          intro W0 hW0 hK0
          have HL0 := Lib.hid (show StAt w0 d n H W0 by rw [hW0]; exact HL.out.later (Below.refl _ wr).drew)
          clear hW0
          refine lexH_yieldE rfl rfl ?_
          apply Exists.intro
          refine ⟨fun W hW => ?_, ?_⟩
          focus (go_simp; exact rfl)
          simp only [List.getElem_toArray, List.getElem_cons_zero, Act.put, List.setIfInBounds_toArray, List.set_cons_zero, List.set_cons_succ]
          refine lexH_yieldE rfl rfl ?_
          apply Exists.intro
          refine ⟨fun W hW => ?_, ?_⟩
          focus (go_simp; exact rfl)
          simp only [List.getElem_toArray, List.getElem_cons_succ, List.getElem_cons_zero, Act.put, List.setIfInBounds_toArray, List.set_cons_zero, List.set_cons_succ]
          refine lexH_yieldE rfl rfl ?_
          apply Exists.intro
          refine ⟨fun W hW => ?_, ?_⟩
          focus (go_simp; exact rfl)
          simp only [List.getElem_toArray, List.getElem_cons_succ, List.getElem_cons_zero, Act.put, List.setIfInBounds_toArray, List.set_cons_zero, List.set_cons_succ]
          refine lexH_yieldE rfl rfl ?_
          apply Exists.intro
          refine ⟨fun W hW => ?_, ?_⟩
          focus (go_simp; exact rfl)
          simp only [List.getElem_toArray, List.getElem_cons_succ, List.getElem_cons_zero, Act.put, List.setIfInBounds_toArray, List.set_cons_zero, List.set_cons_succ]
          refine lexH_yieldE rfl rfl ?_
          apply Exists.intro
          refine ⟨fun W hW => ?_, ?_⟩
          focus (go_simp; exact rfl)
          simp only [List.getElem_toArray, List.getElem_cons_succ, List.getElem_cons_zero, Act.put, List.setIfInBounds_toArray, List.set_cons_zero, List.set_cons_succ]
          refine lexH_load rfl rfl _ _ rfl rfl L1.out ?_
          simp only [List.getElem_toArray, List.getElem_cons_succ, List.getElem_cons_zero, Act.put, List.setIfInBounds_toArray, List.set_cons_zero, List.set_cons_succ]
          refine lexH_yieldE rfl rfl ?_
          apply Exists.intro
          refine ⟨fun W hW => ?_, ?_⟩
          focus (go_simp; exact rfl)
          simp only [List.getElem_toArray, List.getElem_cons_succ, List.getElem_cons_zero, Act.put, List.setIfInBounds_toArray, List.set_cons_zero, List.set_cons_succ]
          refine lexH_yieldE rfl rfl ?_
          apply Exists.intro
          refine ⟨fun W hW => ?_, ?_⟩
          focus (go_simp; exact rfl)
          simp only [List.getElem_toArray, List.getElem_cons_succ, List.getElem_cons_zero, Act.put, List.setIfInBounds_toArray, List.set_cons_zero, List.set_cons_succ]
          refine lexH_yieldE rfl rfl ?_
          apply Exists.intro
          refine ⟨fun W hW => ?_, ?_⟩
          focus (go_simp; exact rfl)
          simp only [List.getElem_toArray, List.getElem_cons_succ, List.getElem_cons_zero, Act.put, List.setIfInBounds_toArray, List.set_cons_zero, List.set_cons_succ]
          refine lexH_yieldE rfl rfl ?_
          apply Exists.intro
          refine ⟨fun W hW => ?_, ?_⟩
          focus (go_simp; exact rfl)
          simp only [List.getElem_toArray, List.getElem_cons_succ, List.getElem_cons_zero, Act.put, List.setIfInBounds_toArray, List.set_cons_zero, List.set_cons_succ]
          refine lexH_load rfl rfl _ _ rfl rfl L2.out ?_
          simp only [List.getElem_toArray, List.getElem_cons_succ, List.getElem_cons_zero, Act.put, List.setIfInBounds_toArray, List.set_cons_zero, List.set_cons_succ]
          refine lexH_call 15 #[.pointer (some ⟨d, 0, none⟩), .int .i64 who, .int .i64 lock] rfl rfl ?_ ?_
          focus (go_simp; done)
          refine (free_at HL0.out.tab who lock).mono ?_
          rintro e w2 ⟨rfl, L, ho⟩
          have HN := Lib.hid (HL0.out.turn L ho)
          refine ⟨_, rfl, HN.out.bel, ?_⟩
          clear L ho hK0 HL0
          simp only [List.getElem_toArray, List.getElem_cons_succ, List.getElem_cons_zero, Act.put, List.setIfInBounds_toArray, List.set_cons_zero, List.set_cons_succ]
          refine lexH_nil ?_
          go_wp2_with (fail)
          go_roundw
          case rel => exact ⟨k + 1, _, hlt, by go_num, HN.out⟩
          case measure => simp [intOf]; omega
        · have e1 : (z == 1) = false := by simpa using hk1
          clear hk1
          go_wp2_with (fail)
          clear c0 e1
          refine wp_region_lex1 (Kept w0.heap.size w0) [(0, false), (1, false), (2, false), (3, false), (4, false), (5, false), (6, false), (7, false), (8, false), (9, false), (10, false), (11, true)]
            (by kernel_rfl) (by kernel_rfl) rfl (by kernel_rfl) HL.out.bel.drew ?_
          intro W0 hW0 hK0
          have HL0 := Lib.hid (show StAt w0 d n H W0 by rw [hW0]; exact HL.out.later (Below.refl _ wr).drew)
          clear hW0
          refine lexH_yieldE rfl rfl ?_
          apply Exists.intro
          refine ⟨fun W hW => ?_, ?_⟩
          focus (go_simp; exact rfl)
          simp only [List.getElem_toArray, List.getElem_cons_zero, Act.put, List.setIfInBounds_toArray, List.set_cons_zero, List.set_cons_succ]
          refine lexH_yieldE rfl rfl ?_
          apply Exists.intro
          refine ⟨fun W hW => ?_, ?_⟩
          focus (go_simp; exact rfl)
          simp only [List.getElem_toArray, List.getElem_cons_succ, List.getElem_cons_zero, Act.put, List.setIfInBounds_toArray, List.set_cons_zero, List.set_cons_succ]
          refine lexH_yieldE rfl rfl ?_
          apply Exists.intro
          refine ⟨fun W hW => ?_, ?_⟩
          focus (go_simp; exact rfl)
          simp only [List.getElem_toArray, List.getElem_cons_succ, List.getElem_cons_zero, Act.put, List.setIfInBounds_toArray, List.set_cons_zero, List.set_cons_succ]
          refine lexH_yieldE rfl rfl ?_
          apply Exists.intro
          refine ⟨fun W hW => ?_, ?_⟩
          focus (go_simp; exact rfl)
          simp only [List.getElem_toArray, List.getElem_cons_succ, List.getElem_cons_zero, Act.put, List.setIfInBounds_toArray, List.set_cons_zero, List.set_cons_succ]
          refine lexH_yieldE rfl rfl ?_
          apply Exists.intro
          refine ⟨fun W hW => ?_, ?_⟩
          focus (go_simp; exact rfl)
          simp only [List.getElem_toArray, List.getElem_cons_succ, List.getElem_cons_zero, Act.put, List.setIfInBounds_toArray, List.set_cons_zero, List.set_cons_succ]
          refine lexH_load rfl rfl _ _ rfl rfl L1.out ?_
          simp only [List.getElem_toArray, List.getElem_cons_succ, List.getElem_cons_zero, Act.put, List.setIfInBounds_toArray, List.set_cons_zero, List.set_cons_succ]
          refine lexH_yieldE rfl rfl ?_
          apply Exists.intro
          refine ⟨fun W hW => ?_, ?_⟩
          focus (go_simp; exact rfl)
          simp only [List.getElem_toArray, List.getElem_cons_succ, List.getElem_cons_zero, Act.put, List.setIfInBounds_toArray, List.set_cons_zero, List.set_cons_succ]
          refine lexH_yieldE rfl rfl ?_
          apply Exists.intro
          refine ⟨fun W hW => ?_, ?_⟩
          focus (go_simp; exact rfl)
          simp only [List.getElem_toArray, List.getElem_cons_succ, List.getElem_cons_zero, Act.put, List.setIfInBounds_toArray, List.set_cons_zero, List.set_cons_succ]
          refine lexH_yieldE rfl rfl ?_
          apply Exists.intro
          refine ⟨fun W hW => ?_, ?_⟩
          focus (go_simp; exact rfl)
          simp only [List.getElem_toArray, List.getElem_cons_succ, List.getElem_cons_zero, Act.put, List.setIfInBounds_toArray, List.set_cons_zero, List.set_cons_succ]
          refine lexH_yieldE rfl rfl ?_
          apply Exists.intro
          refine ⟨fun W hW => ?_, ?_⟩
          focus (go_simp; exact rfl)
          simp only [List.getElem_toArray, List.getElem_cons_succ, List.getElem_cons_zero, Act.put, List.setIfInBounds_toArray, List.set_cons_zero, List.set_cons_succ]
          refine lexH_load rfl rfl _ _ rfl rfl L2.out ?_
          simp only [List.getElem_toArray, List.getElem_cons_succ, List.getElem_cons_zero, Act.put, List.setIfInBounds_toArray, List.set_cons_zero, List.set_cons_succ]
          refine lexH_call 13 #[.pointer (some ⟨d, 0, none⟩), .int .i64 who, .int .i64 lock] rfl rfl ?_ ?_
          focus (go_simp; done)
          refine (try_at HL0.out.tab who lock).mono ?_
          rintro e w2 ⟨rfl, L, ho⟩
          have HN := Lib.hid (HL0.out.turn L ho)
          refine ⟨_, rfl, HN.out.bel, ?_⟩
          clear L ho hK0 HL0
          simp only [List.getElem_toArray, List.getElem_cons_succ, List.getElem_cons_zero, Act.put, List.setIfInBounds_toArray, List.set_cons_zero, List.set_cons_succ]
          refine lexH_nil ?_
          go_wp2_with (fail)
          go_roundw
          case rel => exact ⟨k + 1, _, hlt, by go_num, HN.out⟩
          case measure => simp [intOf]; omega
      · clear HO
        go_wp2_with (fail)
        refine (copy_at HL.out.tab).mono ?_
        rintro e w2 ⟨u, rfl, L2, hu, hb⟩
        have HT2 := Lib.hid (show TwAt w0 d u n H H w2 from ⟨HL.out.tab.later hb, L2, (HL.out.later hb).bel, HL.out.d1, by have := HL.out.bel.size; omega, by have := HL.out.tab.lt; omega⟩)
        clear hb L2 HL hu
        have E1 := do_else (n := n) (H := H) (a := x) (b := y) HW.out HK.out
        have E2 := do_else (n := n) (H := H) (a := y) (b := x) (fun h => HW.out h.symm) (fun h => HK.out h.symm)
        have EX1 := Lib.hid E1.1
        have EX2 := Lib.hid E1.2.1
        have EY1 := Lib.hid E2.1
        have EY2 := Lib.hid E2.2.1
        have ES := Lib.hid (step_both (n := n) (H := H) HW.out HK.out)
        clear E1 E2
        obtain ⟨c0, c1, c2⟩ := op_three (HX.out.later HT2.out.bel)
        go_wp2_with (fail)
        clear c0 c1 c2
        refine (do_any HT2.out.one x).mono ?_
        rintro e w3 ⟨he, L, ho⟩
        subst he
        have HT3 := Lib.hid (HT2.out.first L ho)
        clear L ho HT2
        obtain ⟨c0, c1, c2⟩ := op_three (HY.out.later HT3.out.bel)
        go_wp2_with (fail)
        clear c0 c1 c2
        refine (do_any HT3.out.one y).mono ?_
        rintro e w4 ⟨he, L, ho⟩
        rw [EY1.out, EY2.out] at he
        subst he
        have HT4 := Lib.hid (HT3.out.first L ho)
        clear L ho HT3
        obtain ⟨c0, c1, c2⟩ := op_three (HY.out.later HT4.out.bel)
        go_wp2_with (fail)
        clear c0 c1 c2
        refine (do_any HT4.out.two y).mono ?_
        rintro e w5 ⟨he, L, ho⟩
        subst he
        have HT5 := Lib.hid (HT4.out.second L ho)
        clear L ho HT4
        obtain ⟨c0, c1, c2⟩ := op_three (HX.out.later HT5.out.bel)
        go_wp2_with (fail)
        clear c0 c1 c2
        refine (do_any HT5.out.two x).mono ?_
        rintro e w6 ⟨he, L, ho⟩
        rw [EX1.out, EX2.out] at he
        subst he
        have HT6 := Lib.hid (HT5.out.second L ho)
        clear L ho HT5
        have HT7 := Lib.hid (show TwAt w0 d u n (stepH n (stepH n H y) x) (stepH n (stepH n H y) x) w6 from ES.out ▸ HT6.out)
        clear HT6 ES EX1 EX2 EY1 EY2 HW HK
        generalize stepH n (stepH n H y) x = F at HT7
        generalize doB n H x = p1
        generalize doB n H y = p2
        generalize doE n H x = q1
        generalize doE n H y = q2
        have hn64 := HT7.out.one.n1
        go_wp2_with (fail)
        refine (locks_at HT7.out.one).mono ?_
        rintro e w' ⟨rfl, rfl⟩
        go_wp2_with (fail)
        go_loop [112] (fun i => ∃ j : Nat, j ≤ n ∧ i = .int .i64 j) (fun i => n - (intOf i).toNat)
        case atStart => exact ⟨0, Nat.zero_le _, rfl⟩
        case round =>
          obtain ⟨j, hj, rfl⟩ := hrel
          by_cases hjn : j < n
          · go_wp2_with (fail)
            refine (holder_at HT7.out.one j).mono ?_
            rintro e w' ⟨rfl, rfl⟩
            go_wp2_with (fail)
            refine (holder_at HT7.out.two j).mono ?_
            rintro e w' ⟨rfl, rfl⟩
            go_wp2_with (fail)
            go_round
            case rel => exact ⟨j + 1, hjn, by go_num⟩
            case measure => simp [intOf]; omega
          · obtain rfl : n = j := by omega
            go_wp2_with (fail)
            refine (known_any _).mono ?_
            rintro e w9 ⟨rfl, hb⟩
            have HB := Lib.hid (HB0.out.trans ((HT7.out.bel.trans (hb.mono HT7.out.bel.size)).mono HB0.out.size))
            clear hb
            go_wp2_with (fail)
            go_ret
            exact ⟨rfl, HB.out⟩
  · go_enter Try.func8, Try.ntmps8
    go_wp2_with (fail)
    generalize ((w.alloc (.cells #[.int .i64 x.kind, .int .i64 x.who, .int .i64 x.lock] 33)).alloc (.cells #[.int .i64 y.kind, .int .i64 y.who, .int .i64 y.lock] 33)) = w0 at *
    refine (known_any w0).mono ?_
    rintro e w9 ⟨rfl, hb⟩
    have HB2 := Lib.hid (HB0.out.trans (hb.mono HB0.out.size))
    clear hb
    go_wp2_with (fail)
    go_ret
    exact ⟨rfl, HB2.out⟩
  · go_enter Try.func8, Try.ntmps8
    go_wp2_with (fail)
    generalize ((w.alloc (.cells #[.int .i64 x.kind, .int .i64 x.who, .int .i64 x.lock] 33)).alloc (.cells #[.int .i64 y.kind, .int .i64 y.who, .int .i64 y.lock] 33)) = w0 at *
    refine (known_any w0).mono ?_
    rintro e w9 ⟨rfl, hb⟩
    have HB2 := Lib.hid (HB0.out.trans (hb.mono HB0.out.size))
    clear hb
    go_wp2_with (fail)
    go_ret
    exact ⟨rfl, HB2.out⟩
  · go_enter Try.func8, Try.ntmps8
    go_wp2_with (fail)
    generalize ((w.alloc (.cells #[.int .i64 x.kind, .int .i64 x.who, .int .i64 x.lock] 33)).alloc (.cells #[.int .i64 y.kind, .int .i64 y.who, .int .i64 y.lock] 33)) = w0 at *
    refine (known_any w0).mono ?_
    rintro e w9 ⟨rfl, hb⟩
    have HB2 := Lib.hid (HB0.out.trans (hb.mono HB0.out.size))
    clear hb
    go_wp2_with (fail)
    go_ret
    exact ⟨rfl, HB2.out⟩
end Go.Proofs.Ytepapbecnadllaa
