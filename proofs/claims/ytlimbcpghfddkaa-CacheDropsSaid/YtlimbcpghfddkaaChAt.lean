/-
  chain: the landed slab as it lies; what it reads.
-/
import Derived.Test.YtlimbcpghfddkaaChOk
import Derived.BigQuiet
namespace Go.Proofs.Ytlimbcpghfddkaa
open Go.RowKit Go

/-- The program's slab: its cells; fi is the first one's number, fr how many are free. -/
def cpV (S : Sl) (bb bc : Nat) (fi fr : Int) (i : Nat) : Value :=
  if i = 0 then .slice (some ⟨bb, 0, none⟩) 256 bc else if i = 1 then .int .i64 S.sz else if i = 2 then .int .i64 S.co else if i = 3 then .int .i64 fi else if i = 4 then .int .i64 fr
  else if i < 37 then .bool (S.out (i - 5)) else .int .u64 (S.tu (i - 37))
structure PAt (w : World) (s bb bc : Nat) (S : Sl) (fi fr : Int) : Prop where
  row : RowAt w s 69 (cpV S bb bc fi fr)
  byt : RowAt w bb 256 (byV S.bt)
  ne : s ≠ bb
  may : mayC S.sz S.co = true
theorem cpV_out (S : Sl) (bb bc : Nat) (fi fr : Int) {i : Nat} (h : i < 32) : cpV S bb bc fi fr (5 + i) = .bool (S.out i) := by
  unfold cpV
  rw [if_neg (by omega), if_neg (by omega), if_neg (by omega), if_neg (by omega), if_neg (by omega), if_pos (by omega), show 5 + i - 5 = i by omega]
theorem cpV_tu (S : Sl) (bb bc : Nat) (fi fr : Int) (i : Nat) : cpV S bb bc fi fr (37 + i) = .int .u64 (S.tu i) := by
  unfold cpV
  rw [if_neg (by omega), if_neg (by omega), if_neg (by omega), if_neg (by omega), if_neg (by omega), if_neg (by omega), show 37 + i - 37 = i by omega]
section
variable {w w' : World} {s bb bc : Nat} {S : Sl} {fi fr : Int}
theorem PAt.later (R : PAt w s bb bc S fi fr) (h : Below w.heap.size w w') : PAt w' s bb bc S fi fr := ⟨R.row.later h, R.byt.later h, R.ne, R.may⟩
theorem PAt.c0 (R : PAt w s bb bc S fi fr) : w.cell? ⟨s, 0, none⟩ = some (.slice (some ⟨bb, 0, none⟩) 256 bc) := R.row.cell 0 (by decide)
theorem PAt.c1 (R : PAt w s bb bc S fi fr) : w.cell? ⟨s, 1, none⟩ = some (.int .i64 S.sz) := R.row.cell 1 (by decide)
theorem PAt.c2 (R : PAt w s bb bc S fi fr) : w.cell? ⟨s, 2, none⟩ = some (.int .i64 S.co) := R.row.cell 2 (by decide)
theorem PAt.c3 (R : PAt w s bb bc S fi fr) : w.cell? ⟨s, 3, none⟩ = some (.int .i64 fi) := R.row.cell 3 (by decide)
theorem PAt.c4 (R : PAt w s bb bc S fi fr) : w.cell? ⟨s, 4, none⟩ = some (.int .i64 fr) := R.row.cell 4 (by decide)
theorem PAt.co (R : PAt w s bb bc S fi fr) {i : Nat} (h : i < 32) : w.cell? ⟨s, 5 + i, none⟩ = some (.bool (S.out i)) := by
  rw [← cpV_out S bb bc fi fr h]
  exact R.row.cell _ (by omega)
theorem PAt.ct (R : PAt w s bb bc S fi fr) {i : Nat} (h : i < 32) : w.cell? ⟨s, 37 + i, none⟩ = some (.int .u64 (S.tu i)) := by
  rw [← cpV_tu S bb bc fi fr i]
  exact R.row.cell _ (by omega)
theorem PAt.n32 (R : PAt w s bb bc S fi fr) : S.n ≤ 32 := (cnt_le R.may).1
/-- What is read of it does not hang on the chain. -/
theorem PAt.ch (R : PAt w s bb bc S fi fr) (l : List Nat) : PAt w s bb bc { S with ch := l } fi fr := ⟨R.row.ext (fun _ _ => rfl), R.byt, R.ne, R.may⟩
theorem PAt.setFi (R : PAt w s bb bc S fi fr) (x : Int) : PAt (w.setCell ⟨s, 3, none⟩ (.int .i64 x)) s bb bc S x fr ∧ Only (fun k => k = s) w (w.setCell ⟨s, 3, none⟩ (.int .i64 x)) := by
  have ho : Only (fun k => k = s) w (w.setCell ⟨s, 3, none⟩ (.int .i64 x)) := Only.setCell (S := fun k => k = s) _ ⟨s, 3, none⟩ rfl _
  refine ⟨⟨(R.row.setCell 3 _).ext fun k hk => ?_, R.byt.only ho (fun e => R.ne e.symm), R.ne, R.may⟩, ho⟩
  unfold updV
  by_cases e : k = 3
  · subst e
    rfl
  · rw [if_neg e]
    unfold cpV
    rw [if_neg e, if_neg e]
theorem PAt.setFr (R : PAt w s bb bc S fi fr) (x : Int) : PAt (w.setCell ⟨s, 4, none⟩ (.int .i64 x)) s bb bc S fi x ∧ Only (fun k => k = s) w (w.setCell ⟨s, 4, none⟩ (.int .i64 x)) := by
  have ho : Only (fun k => k = s) w (w.setCell ⟨s, 4, none⟩ (.int .i64 x)) := Only.setCell (S := fun k => k = s) _ ⟨s, 4, none⟩ rfl _
  refine ⟨⟨(R.row.setCell 4 _).ext fun k hk => ?_, R.byt.only ho (fun e => R.ne e.symm), R.ne, R.may⟩, ho⟩
  unfold updV
  by_cases e : k = 4
  · subst e
    rfl
  · rw [if_neg e]
    unfold cpV
    rw [if_neg e, if_neg e]
theorem PAt.setOut (R : PAt w s bb bc S fi fr) {i : Nat} (h : i < 32) (t : Bool) : PAt (w.setCell ⟨s, 5 + i, none⟩ (.bool t)) s bb bc { S with out := updC S.out i t } fi fr ∧ Only (fun k => k = s) w (w.setCell ⟨s, 5 + i, none⟩ (.bool t)) := by
  have ho : Only (fun k => k = s) w (w.setCell ⟨s, 5 + i, none⟩ (.bool t)) := Only.setCell (S := fun k => k = s) _ ⟨s, 5 + i, none⟩ rfl _
  refine ⟨⟨(R.row.setCell (5 + i) _).ext fun k hk => ?_, R.byt.only ho (fun e => R.ne e.symm), R.ne, R.may⟩, ho⟩
  by_cases e : k = 5 + i
  · subst e
    rw [cpV_out _ bb bc fi fr h]
    unfold updV
    rw [if_pos rfl]
    show Value.bool t = Value.bool (updC S.out i t i)
    rw [updC_same]
  · unfold updV
    rw [if_neg e]
    by_cases h0 : 5 ≤ k ∧ k < 37
    · obtain ⟨j, rfl⟩ : ∃ j, k = 5 + j := ⟨k - 5, by omega⟩
      rw [cpV_out S bb bc fi fr (by omega), cpV_out _ bb bc fi fr (by omega)]
      show _ = Value.bool (updC S.out i t j)
      rw [updC_other _ (by omega)]
    · unfold cpV
      repeat' split
      all_goals first | rfl | omega
theorem PAt.setTu (R : PAt w s bb bc S fi fr) {i : Nat} (h : i < 32) (t : Int) : PAt (w.setCell ⟨s, 37 + i, none⟩ (.int .u64 t)) s bb bc { S with tu := updC S.tu i t } fi fr ∧ Only (fun k => k = s) w (w.setCell ⟨s, 37 + i, none⟩ (.int .u64 t)) := by
  have ho : Only (fun k => k = s) w (w.setCell ⟨s, 37 + i, none⟩ (.int .u64 t)) := Only.setCell (S := fun k => k = s) _ ⟨s, 37 + i, none⟩ rfl _
  refine ⟨⟨(R.row.setCell (37 + i) _).ext fun k hk => ?_, R.byt.only ho (fun e => R.ne e.symm), R.ne, R.may⟩, ho⟩
  unfold updV cpV
  by_cases e : k = 37 + i
  · subst e
    rw [if_pos rfl, if_neg (by omega), if_neg (by omega), if_neg (by omega), if_neg (by omega), if_neg (by omega), if_neg (by omega), show 37 + i - 37 = i by omega]
    show Value.int .u64 t = Value.int .u64 (updC S.tu i t i)
    rw [updC_same]
  · rw [if_neg e]
    by_cases h0 : k < 37
    · repeat' split
      all_goals first | rfl | omega
    · rw [if_neg (by omega), if_neg (by omega), if_neg (by omega), if_neg (by omega), if_neg (by omega), if_neg h0]
      rw [if_neg (by omega), if_neg (by omega), if_neg (by omega), if_neg (by omega), if_neg (by omega), if_neg h0]
      show _ = Value.int .u64 (updC S.tu i t (k - 37))
      rw [updC_other _ (by omega)]
theorem PAt.setBt (R : PAt w s bb bc S fi fr) {p : Nat} (x : UInt8) : PAt (w.setCell ⟨bb, p, none⟩ (.int .u8 x.toNat)) s bb bc { S with bt := updC S.bt p x } fi fr ∧ Only (fun k => k = bb) w (w.setCell ⟨bb, p, none⟩ (.int .u8 x.toNat)) := by
  have ho : Only (fun k => k = bb) w (w.setCell ⟨bb, p, none⟩ (.int .u8 x.toNat)) := Only.setCell (S := fun k => k = bb) _ ⟨bb, p, none⟩ rfl _
  refine ⟨⟨R.row.only ho R.ne, (R.byt.setCell p _).ext fun k hk => ?_, R.ne, R.may⟩, ho⟩
  unfold updV byV
  dsimp only
  unfold updC
  split <;> rfl
theorem PAt.setBytes (R : PAt w s bb bc S fi fr) {f : Nat → UInt8} (h : RowAt w' bb 256 (byV f)) (ho : Only (fun k => k = bb) w w') : PAt w' s bb bc { S with bt := f } fi fr :=
  ⟨R.row.only ho R.ne, h, R.ne, R.may⟩
set_option maxRecDepth 100000 in
set_option maxHeartbeats 2000000 in
theorem pmissing_any (R : PAt w s bb bc S fi fr) :
    Calls Try.prog 53 #[.pointer (some ⟨s, 0, none⟩)] w fun e w' => e = .returned (.bool false) ∧ w = w' := by
  have c1 := R.c1
  have p1 := (may_parts R.may).1
  have hz : ((S.sz : Int) == 0) = false := by simp; omega
  clear R
  generalize S.sz = sz at *
  go_enter Try.func53, Try.ntmps53
  go_wp2_with (fail)
  go_ret
  exact ⟨rfl, rfl⟩
set_option maxRecDepth 100000 in
set_option maxHeartbeats 2000000 in
theorem pcount_any (R : PAt w s bb bc S fi fr) :
    Calls Try.prog 30 #[.pointer (some ⟨s, 0, none⟩)] w fun e w' => e = .returned (.int .i64 S.n) ∧ Below w.heap.size w w' := by
  have c1 := R.c1
  have c2 := R.c2
  obtain ⟨p1, p2, p3, p4, p5, p6⟩ := may_parts R.may
  obtain ⟨n32, n1, _, _⟩ := cnt_le R.may
  obtain ⟨n, hn⟩ : ∃ n, S.n = n := ⟨_, rfl⟩
  have hn2 : (256 - S.co) / S.sz = n := hn
  have hq : (256 - (S.co : Int)).tdiv (S.sz : Int) = (n : Int) := by
    rw [Int.tdiv_eq_ediv_of_nonneg (by omega), ← hn2, Int.natCast_ediv, Int.natCast_sub (by omega)]
    rfl
  have hq2 : (256 - (S.co : Int)) / (S.sz : Int) = (n : Int) := by
    rw [← hn2, Int.natCast_ediv, Int.natCast_sub (by omega)]
    rfl
  rw [hn2] at n32
  rw [hn]
  have HB := Lib.hid (Below.refl w.heap.size w)
  have HM := Lib.hid (pmissing_any R)
  have hsz : ¬ ((S.sz : Int) = 0) := by omega
  clear R hn hn2 n1
  generalize S.sz = sz at *
  generalize S.co = co at *
  go_enter Try.func30, Try.ntmps30
  go_wp2_with (fail)
  refine HM.out.mono ?_
  rintro e w' ⟨rfl, rfl⟩
  go_wp2_with (fail)
  go_quiet (fail)
  go_wp2_with (fail)
  go_ret
  exact ⟨rfl, below_drewN HB.out nq⟩
set_option maxRecDepth 100000 in
set_option maxHeartbeats 2000000 in
theorem phas_any (R : PAt w s bb bc S fi fr) (i : Int) :
    Calls Try.prog 60 #[.pointer (some ⟨s, 0, none⟩), .int .i64 i] w fun e w' => e = .returned (.bool (S.has i)) ∧ Below w.heap.size w w' := by
  have HC := Lib.hid (pcount_any R)
  have HB := Lib.hid (Below.refl w.heap.size w)
  by_cases h0 : 0 ≤ i
  · by_cases h1 : i < (S.n : Int)
    · rw [has_iff.2 ⟨h0, h1⟩]
      clear R
      generalize S.n = n at *
      go_enter Try.func60, Try.ntmps60
      go_wp2_with (fail)
      refine HC.out.mono ?_
      rintro e w' ⟨rfl, hb⟩
      have HB1 := Lib.hid hb
      clear hb
      go_wp2_with (fail)
      go_ret
      exact ⟨rfl, HB1.out⟩
    · rw [has_no.2 (.inr (by omega))]
      clear R
      generalize S.n = n at *
      go_enter Try.func60, Try.ntmps60
      go_wp2_with (fail)
      refine HC.out.mono ?_
      rintro e w' ⟨rfl, hb⟩
      have HB1 := Lib.hid hb
      clear hb
      go_wp2_with (fail)
      go_ret
      refine ⟨?_, HB1.out⟩
      show Ending.returned (.bool (decide (i < (n : Int)))) = _
      rw [decide_eq_false (by omega)]
  · rw [has_no.2 (.inl (by omega))]
    clear R
    go_enter Try.func60, Try.ntmps60
    go_wp2_with (fail)
    go_ret
    exact ⟨rfl, HB.out⟩
set_option maxRecDepth 100000 in
set_option maxHeartbeats 2000000 in
theorem pat_any (R : PAt w s bb bc S fi fr) (i : Int) :
    Calls Try.prog 62 #[.pointer (some ⟨s, 0, none⟩), .int .i64 i] w fun e w' => e = .returned (.tuple #[.int .i64 (S.place i).1, .int .i64 (S.place i).2]) ∧ Below w.heap.size w w' := by
  have HH := Lib.hid (phas_any R i)
  cases hh : S.has i with
  | false =>
    have hz : S.place i = (0, 0) := by unfold Sl.place; rw [if_neg (by rw [hh]; decide)]
    rw [hz]
    rw [hh] at HH
    clear R hh hz
    go_enter Try.func62, Try.ntmps62
    go_wp2_with (fail)
    refine HH.out.mono ?_
    rintro e w' ⟨rfl, hb⟩
    have HB1 := Lib.hid hb
    clear hb
    go_wp2_with (fail)
    go_ret2
    exact ⟨rfl, HB1.out⟩
  | true =>
    have hi := has_iff.1 hh
    obtain ⟨k, rfl⟩ : ∃ k : Nat, i = k := ⟨i.toNat, by omega⟩
    have hk : k < S.n := by omega
    have hz : S.place k = ((S.pos k : Int), (S.pos k + S.sz : Int)) := by unfold Sl.place; rw [if_pos hh, Int.toNat_natCast]
    rw [hz]
    rw [hh] at HH
    have hfit := pos_fit R.may hk
    obtain ⟨p1, p2, p3, p4, p5, p6⟩ := may_parts R.may
    obtain ⟨m, hm⟩ : ∃ m : Nat, k * S.sz = m := ⟨_, rfl⟩
    have hmI : (k : Int) * (S.sz : Int) = (m : Int) := by rw [← hm]; simp
    have hp : S.pos k = S.co + m := by unfold Sl.pos; rw [hm]
    rw [hp] at hfit ⊢
    have HC1 := Lib.hid (fun W (h : Below w.heap.size w W) => (R.later h).c1)
    have HC2 := Lib.hid (fun W (h : Below w.heap.size w W) => (R.later h).c2)
    clear hz hm hp hi R hh hk
    generalize S.sz = sz at *
    generalize S.co = co at *
    go_enter Try.func62, Try.ntmps62
    go_wp2_with (fail)
    refine HH.out.mono ?_
    rintro e w' ⟨rfl, hb⟩
    have HB1 := Lib.hid hb
    have c1 := HC1.out _ hb
    have c2 := HC2.out _ hb
    clear hb HC1 HC2 HH
    have e1 : IntKind.i64.wrap ((co : Int) + IntKind.i64.wrap (m : Int)) = (co : Int) + (m : Int) := by simp only [IntKind.wrap_i64]; omega
    have e2 : IntKind.i64.wrap ((co : Int) + (m : Int) + (sz : Int)) = (co : Int) + (m : Int) + (sz : Int) := by simp only [IntKind.wrap_i64]; omega
    go_wp2_with (fail)
    go_quiet (fail)
    have c1 : (w'.drewN nq).cell? ⟨s, 1, none⟩ = _ := c1
    have c2 : (w'.drewN nq).cell? ⟨s, 2, none⟩ = _ := c2
    have HB2 := Lib.hid (below_drewN HB1.out nq)
    clear HB1
    generalize w'.drewN nq = W at *
    go_wp2_with (fail)
    go_quiet (fail)
    go_wp2_with (fail)
    go_ret2
    exact ⟨rfl, below_drewN HB2.out nq⟩
set_option maxRecDepth 100000 in
set_option maxHeartbeats 2000000 in
theorem pnext_any (R : PAt w s bb bc S fi fr) {k : Nat} (hk : k < S.n) :
    Calls Try.prog 61 #[.pointer (some ⟨s, 0, none⟩), .int .i64 k] w fun e w' => e = .returned (.int .i64 (S.bt (S.pos k)).toNat) ∧ Below w.heap.size w w' := by
  have HA := pat_any R k
  have hh := has_nat.2 hk
  have hz : S.place k = ((S.pos k : Int), (S.pos k + S.sz : Int)) := by unfold Sl.place; rw [if_pos hh, Int.toNat_natCast]
  rw [hz] at HA
  have HA2 := Lib.hid HA
  have hfit := pos_fit R.may hk
  obtain ⟨p1, p2, p3, p4, p5, p6⟩ := may_parts R.may
  have hp256 : ((S.pos k : Nat) : Int) < 256 := by omega
  have HC0 := Lib.hid (fun W (h : Below w.heap.size w W) => (R.later h).c0)
  have HCB := Lib.hid (fun W (h : Below w.heap.size w W) => (show W.cell? ⟨bb, S.pos k, none⟩ = some (.int .u8 (S.bt (S.pos k)).toNat) from (R.later h).byt.cell _ (by omega)))
  have h255 : (S.bt (S.pos k)).toNat < 256 := UInt8.toNat_lt _
  clear HA hz hh R hk
  generalize S.pos k = p at *
  generalize S.sz = sz at *
  generalize (S.bt p).toNat = x at *
  go_enter Try.func61, Try.ntmps61
  go_wp2_with (fail)
  refine HA2.out.mono ?_
  rintro e w' ⟨rfl, hb⟩
  have HB1 := Lib.hid hb
  have c0 := HC0.out _ hb
  have cb := HCB.out _ hb
  have e1 : IntKind.i64.wrap (x : Int) = (x : Int) := by rw [IntKind.wrap_i64]; omega
  clear hb HC0 HCB HA2
  go_wp2_with (fail)
  go_ret
  exact ⟨rfl, HB1.out⟩
set_option maxRecDepth 100000 in
set_option maxHeartbeats 2000000 in
theorem pasked_any (R : PAt w s bb bc S fi fr) (i : Int) :
    Calls Try.prog 47 #[.pointer (some ⟨s, 0, none⟩), .int .i64 i] w fun e w' => e = .returned (.int .i64 (if S.has i = true then 0 else 2)) ∧ Below w.heap.size w w' := by
  have HM := Lib.hid (pmissing_any R)
  have HH := Lib.hid (phas_any R i)
  clear R
  cases hh : S.has i with
  | false =>
    rw [if_neg (by decide)]
    rw [hh] at HH
    clear hh
    go_enter Try.func47, Try.ntmps47
    go_wp2_with (fail)
    refine HM.out.mono ?_
    rintro e w' ⟨rfl, rfl⟩
    go_wp2_with (fail)
    refine HH.out.mono ?_
    rintro e w' ⟨rfl, hb⟩
    have HB1 := Lib.hid hb
    clear hb
    go_wp2_with (fail)
    go_ret
    exact ⟨rfl, HB1.out⟩
  | true =>
    rw [if_pos rfl]
    rw [hh] at HH
    clear hh
    go_enter Try.func47, Try.ntmps47
    go_wp2_with (fail)
    refine HM.out.mono ?_
    rintro e w' ⟨rfl, rfl⟩
    go_wp2_with (fail)
    refine HH.out.mono ?_
    rintro e w' ⟨rfl, hb⟩
    have HB1 := Lib.hid hb
    clear hb
    go_wp2_with (fail)
    go_ret
    exact ⟨rfl, HB1.out⟩
set_option maxRecDepth 100000 in
set_option maxHeartbeats 2000000 in
theorem plive_any (R : PAt w s bb bc S fi fr) (i : Int) :
    Calls Try.prog 48 #[.pointer (some ⟨s, 0, none⟩), .int .i64 i] w fun e w' => e = .returned (.tuple #[.int .u64 (S.live i).1, .bool (S.live i).2]) ∧ Below w.heap.size w w' := by
  have HH := Lib.hid (phas_any R i)
  cases hh : S.has i with
  | false =>
    have hz : S.live i = (0, false) := by unfold Sl.live; rw [if_neg (by rw [hh]; exact fun h => absurd h.1 (by decide))]
    rw [hz]
    rw [hh] at HH
    clear R hh hz
    go_enter Try.func48, Try.ntmps48
    go_wp2_with (fail)
    refine HH.out.mono ?_
    rintro e w' ⟨rfl, hb⟩
    have HB1 := Lib.hid hb
    clear hb
    go_wp2_with (fail)
    go_ret2
    exact ⟨rfl, HB1.out⟩
  | true =>
    have hi := has_iff.1 hh
    have hn := R.n32
    obtain ⟨k, rfl⟩ : ∃ k : Nat, i = k := ⟨i.toNat, by omega⟩
    have hk32 : (k : Int) < 32 := by omega
    rw [hh] at HH
    have HC := Lib.hid (fun W (h : Below w.heap.size w W) => (R.later h).ct (i := k) (by omega))
    by_cases ht : S.tu k = 0
    · have hz : S.live k = (0, false) := by unfold Sl.live; rw [if_neg (fun h => h.2 (by rw [Int.toNat_natCast]; exact ht))]
      rw [hz]
      rw [ht] at HC
      clear R hh hz hi hn ht
      go_enter Try.func48, Try.ntmps48
      go_wp2_with (fail)
      refine HH.out.mono ?_
      rintro e w' ⟨rfl, hb⟩
      have HB1 := Lib.hid hb
      have ct := HC.out _ hb
      clear hb HC HH
      go_wp2_with (fail)
      go_quiet (fail)
      go_wp2_with (fail)
      go_ret2
      exact ⟨rfl, below_drewN HB1.out nq⟩
    · have hz : S.live k = (S.tu k, true) := by unfold Sl.live; rw [if_pos ⟨hh, by rw [Int.toNat_natCast]; exact ht⟩, Int.toNat_natCast]
      rw [hz]
      have htb : (S.tu k != 0) = true := by simpa using ht
      clear R hh hz hi hn
      generalize S.tu k = t at *
      go_enter Try.func48, Try.ntmps48
      go_wp2_with (fail)
      refine HH.out.mono ?_
      rintro e w' ⟨rfl, hb⟩
      have HB1 := Lib.hid hb
      have ct := HC.out _ hb
      clear hb HC HH
      go_wp2_with (fail)
      go_quiet (fail)
      go_wp2_with (fail)
      go_ret2
      exact ⟨rfl, below_drewN HB1.out nq⟩
set_option maxRecDepth 100000 in
theorem psize_any (R : PAt w s bb bc S fi fr) :
    Calls Try.prog 51 #[.pointer (some ⟨s, 0, none⟩)] w fun e w' => e = .returned (.int .i64 S.sz) ∧ w = w' := by
  have c1 := R.c1
  clear R
  generalize S.sz = sz at *
  go_enter Try.func51, Try.ntmps51
  go_wp2_with (fail)
  go_ret
  exact ⟨rfl, rfl⟩
set_option maxRecDepth 100000 in
theorem pcolour_any (R : PAt w s bb bc S fi fr) :
    Calls Try.prog 29 #[.pointer (some ⟨s, 0, none⟩)] w fun e w' => e = .returned (.int .i64 S.co) ∧ w = w' := by
  have c2 := R.c2
  clear R
  generalize S.co = co at *
  go_enter Try.func29, Try.ntmps29
  go_wp2_with (fail)
  go_ret
  exact ⟨rfl, rfl⟩
set_option maxRecDepth 100000 in
theorem pfree_any (R : PAt w s bb bc S fi fr) :
    Calls Try.prog 34 #[.pointer (some ⟨s, 0, none⟩)] w fun e w' => e = .returned (.int .i64 fr) ∧ w = w' := by
  have c4 := R.c4
  clear R
  go_enter Try.func34, Try.ntmps34
  go_wp2_with (fail)
  go_ret
  exact ⟨rfl, rfl⟩
end
set_option maxRecDepth 100000 in
set_option maxHeartbeats 2000000 in
theorem pmay_any (size colour : Int) (w : World) : Calls Try.prog 55 #[.int .i64 size, .int .i64 colour] w fun e w' => e = .returned (.bool (mayC size colour)) ∧ w = w' := by
  have key : ∀ b : Bool, mayC size colour = b → (Calls Try.prog 55 #[.int .i64 size, .int .i64 colour] w fun e w' => e = .returned (.bool b) ∧ w = w') → (Calls Try.prog 55 #[.int .i64 size, .int .i64 colour] w fun e w' => e = .returned (.bool (mayC size colour)) ∧ w = w') := fun b e h => by rw [e]; exact h
  by_cases h1 : size < 8
  · refine key false (decide_eq_false (by omega)) ?_
    go_enter Try.func55, Try.ntmps55
    go_wp2_with (fail)
    go_ret
    exact ⟨rfl, rfl⟩
  · by_cases h2 : 128 < size
    · refine key false (decide_eq_false (by omega)) ?_
      go_enter Try.func55, Try.ntmps55
      go_wp2_with (fail)
      go_ret
      exact ⟨rfl, rfl⟩
    · obtain ⟨s, rfl⟩ : ∃ s : Nat, size = s := ⟨size.toNat, by omega⟩
      by_cases h3 : s % 8 = 0
      · have e3 : ((s : Int) % 8 == 0) = true := by simp; omega
        by_cases h4 : colour < 0
        · have h4b : ¬ 0 ≤ colour := by omega
          refine key false (decide_eq_false (by omega)) ?_
          go_enter Try.func55, Try.ntmps55
          go_wp2_with (fail)
          go_ret
          exact ⟨rfl, rfl⟩
        · obtain ⟨c, rfl⟩ : ∃ c : Nat, colour = c := ⟨colour.toNat, by omega⟩
          obtain ⟨m, hm, hw⟩ : ∃ m : Nat, (256 : Int) % (s : Int) = (m : Int) ∧ m < 256 := ⟨256 % s, by simp, by
            have := Nat.mod_lt 256 (show 0 < s by omega)
            omega⟩
          by_cases h6 : c ≤ m
          · have h6I : (c : Int) ≤ (m : Int) := by omega
            by_cases h5 : c % 8 = 0
            · have e5 : ((c : Int) % 8 == 0) = true := by simp; omega
              refine key true (decide_eq_true ⟨by omega, by omega, by omega, by omega, by omega, by rw [hm]; omega⟩) ?_
              go_enter Try.func55, Try.ntmps55
              go_wp2_with (fail)
              go_ret
              exact ⟨rfl, rfl⟩
            · have e5 : ((c : Int) % 8 == 0) = false := by simp; omega
              refine key false (decide_eq_false (by omega)) ?_
              go_enter Try.func55, Try.ntmps55
              go_wp2_with (fail)
              go_ret
              exact ⟨rfl, rfl⟩
          · refine key false (decide_eq_false (fun h => h6 (by have := h.2.2.2.2.2; rw [hm] at this; omega))) ?_
            have h6I : ¬ (c : Int) ≤ (m : Int) := by omega
            go_enter Try.func55, Try.ntmps55
            go_wp2_with (fail)
            go_ret
            exact ⟨rfl, rfl⟩
      · have e3 : ((s : Int) % 8 == 0) = false := by simp; omega
        refine key false (decide_eq_false (by omega)) ?_
        go_enter Try.func55, Try.ntmps55
        go_wp2_with (fail)
        go_ret
        exact ⟨rfl, rfl⟩
end Go.Proofs.Ytlimbcpghfddkaa
