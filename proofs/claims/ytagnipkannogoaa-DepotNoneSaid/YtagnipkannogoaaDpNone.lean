/-
  depot: one that is not there, or a zero one: the contracts; the walk of DepotNone.
-/
import Derived.Test.YtagnipkannogoaaDpDrain
namespace Go.Proofs.Ytagnipkannogoaa
open Go.RowKit Go
def noneV (z : Nat) (i : Nat) : Value := if i = 0 then .pointer none else .pointer (some ⟨z, 0, none⟩)
/-- What the law has made: the object's box, the zero depot, the list of both. -/
structure NSt (w0 : World) (X : Nat) (x y : Int) (w : World) : Prop where
  hX : X = w0.heap.size
  bel : Below w0.heap.size w0 w
  box : RowAt w X 2 (obV x y)
  lst : RowAt w (X + 2) 2 (noneV (X + 1))
  zero : ∃ D : DP, D.p = X + 1 ∧ DAt w D 0 [] [] ∧ ∀ k, D.has k → w0.heap.size ≤ k ∧ k ≠ X ∧ k ≠ X + 2
def Gone (X : Nat) (v : Value) : Prop := v = .pointer none ∨ v = .pointer (some ⟨X + 1, 0, none⟩)
section
variable {w0 w w' : World} {X : Nat} {x y : Int} {v u : Value} {D D' : DP} {L Q : Obs}
theorem NSt.later (h : NSt w0 X x y w) (hb : Below w.heap.size w w') : NSt w0 X x y w' := by
  obtain ⟨D, h1, h2, h3⟩ := h.zero
  exact ⟨h.hX, h.bel.trans (hb.mono h.bel.size), h.box.later hb, h.lst.later hb, D, h1, h2.later hb, h3⟩
theorem NSt.turn (h : NSt w0 X x y w) (hp : D.p = X + 1) (hh : ∀ k, D.has k → w0.heap.size ≤ k ∧ k ≠ X ∧ k ≠ X + 2) (hT : TTurn w (thD D 0 [] []) w' (thD D' 0 [] [])) (hp' : D'.p = D.p) : NSt w0 X x y w' := by
  have hl := h.lst.lt
  refine ⟨h.hX, hT.only.below h.bel h.bel.size (fun k hk => (hh k hk).1), h.box.only hT.only (fun hk => (hh _ hk).2.1 rfl), h.lst.only hT.only (fun hk => (hh _ hk).2.2 rfl), D', hp'.trans hp, hT.at', fun k hk => ?_⟩
  rcases hT.new k hk with h1 | h1
  · exact hh k h1
  · have := h.hX
    omega
def StP (w0 : World) (X : Nat) (x y : Int) (r : Value) (e : Ending) (w' : World) : Prop := e = .returned r ∧ NSt w0 X x y w'
def StN (w0 : World) (X : Nat) (x y : Int) (e : Ending) (w' : World) : Prop := ∃ a c, e = .returned (.slice a 0 c) ∧ NSt w0 X x y w'
set_option maxRecDepth 100000 in
set_option maxHeartbeats 2000000 in
theorem missing_gone (h : NSt w0 X x y w) (hv : Gone X v) : Calls Try.prog 27 #[v] w fun e w' => e = .returned (.bool true) ∧ w = w' := by
  rcases hv with rfl | rfl
  · go_enter Try.func27, Try.ntmps27
    go_wp2_with (fail)
    go_ret
    exact ⟨rfl, rfl⟩
  · obtain ⟨D, hp, hD, _⟩ := h.zero
    have c0 := hD.c0
    rw [hp] at c0
    clear h hD
    go_enter Try.func27, Try.ntmps27
    go_wp2_with (fail)
    go_ret
    exact ⟨rfl, rfl⟩
set_option maxRecDepth 100000 in
set_option maxHeartbeats 2000000 in
theorem rounds_gone (h : NSt w0 X x y w) (hv : Gone X v) : Calls Try.prog 11 #[v] w (StP w0 X x y (.int .i64 0)) := by
  rcases hv with rfl | rfl
  · have HH := Lib.hid h
    clear h
    go_enter Try.func11, Try.ntmps11
    go_wp2_with (fail)
    go_ret
    exact ⟨rfl, HH.out⟩
  · obtain ⟨D, hp, hD, _⟩ := h.zero
    have h1 := rounds_any hD
    rw [hp] at h1
    exact h1.mono fun _ _ ⟨e, e2⟩ => ⟨e, by rw [← e2]; exact h⟩
set_option maxRecDepth 100000 in
set_option maxHeartbeats 2000000 in
theorem queued_gone (h : NSt w0 X x y w) (hv : Gone X v) : Calls Try.prog 24 #[v] w (StP w0 X x y (.int .i64 0)) := by
  rcases hv with rfl | rfl
  · have HH := Lib.hid h
    clear h
    go_enter Try.func24, Try.ntmps24
    go_wp2_with (fail)
    go_ret
    exact ⟨rfl, HH.out⟩
  · obtain ⟨D, hp, hD, _⟩ := h.zero
    have h1 := queued_any hD
    rw [hp] at h1
    exact h1.mono fun _ _ ⟨e, e2⟩ => ⟨e, by rw [← e2]; exact h⟩
set_option maxRecDepth 100000 in
set_option maxHeartbeats 2000000 in
theorem fulls_gone (h : NSt w0 X x y w) (hv : Gone X v) : Calls Try.prog 23 #[v] w (StP w0 X x y (.int .i64 0)) := by
  have HM := Lib.hid (missing_gone h hv)
  have HH := Lib.hid h
  clear h
  go_enter Try.func23, Try.ntmps23
  go_wp2_with (fail)
  refine HM.out.mono ?_
  rintro e w1 ⟨rfl, rfl⟩
  clear HM
  go_wp2_with (fail)
  go_ret
  exact ⟨rfl, HH.out⟩
set_option maxRecDepth 100000 in
set_option maxHeartbeats 2000000 in
theorem put_gone (h : NSt w0 X x y w) (hv : Gone X v) : Calls Try.prog 12 #[v, u] w (StP w0 X x y (.int .i64 1)) := by
  have HM := Lib.hid (missing_gone h hv)
  have HH := Lib.hid h
  clear h
  go_enter Try.func12, Try.ntmps12
  go_wp2_with (fail)
  refine HM.out.mono ?_
  rintro e w1 ⟨rfl, rfl⟩
  clear HM
  go_wp2_with (fail)
  go_ret
  exact ⟨rfl, HH.out⟩
set_option maxRecDepth 100000 in
set_option maxHeartbeats 2000000 in
theorem get_gone (h : NSt w0 X x y w) (hv : Gone X v) : Calls Try.prog 14 #[v] w (StP w0 X x y (.tuple #[.slice none 0 0, .bool false])) := by
  have HM := Lib.hid (fulls_gone h hv)
  clear h
  go_enter Try.func14, Try.ntmps14
  go_wp2_with (fail)
  refine HM.out.mono ?_
  rintro e w1 ⟨rfl, hn⟩
  have HH := Lib.hid hn
  clear HM hn
  go_wp2_with (fail)
  go_ret2
  exact ⟨rfl, HH.out⟩
set_option maxRecDepth 100000 in
set_option maxHeartbeats 2000000 in
theorem queue_gone (h : NSt w0 X x y w) (hv : Gone X v) (x2 y2 : Int) : Calls Try.prog 16 #[v, .agg #[.int .i64 x2, .int .i64 y2]] w (StP w0 X x y (.tuple #[])) := by
  have hba : Below w.heap.size w (w.alloc (.cells #[.int .i64 x2, .int .i64 y2] 38)) := (Below.refl w.heap.size w).alloc (Nat.le_refl _) _
  have HM := Lib.hid (missing_gone (h.later hba) hv)
  have HH := Lib.hid (h.later hba)
  clear h hba
  go_enter Try.func16, Try.ntmps16
  go_wp2_with (fail)
  refine HM.out.mono ?_
  rintro e w1 ⟨rfl, rfl⟩
  clear HM
  go_wp2_with (fail)
  refine bodyPost_ret (results_none rfl _ _ _) rfl ?_
  exact ⟨rfl, HH.out⟩
set_option maxRecDepth 100000 in
set_option maxHeartbeats 2000000 in
theorem all_gone (h : NSt w0 X x y w) (hv : Gone X v) : Calls Try.prog 21 #[v] w (StN w0 X x y) := by
  rcases hv with rfl | rfl
  · have HH := Lib.hid h
    clear h
    go_enter Try.func21, Try.ntmps21
    go_wp2_with (fail)
    go_ret
    exact ⟨none, 0, rfl, HH.out⟩
  · obtain ⟨D, hp, hD, _⟩ := h.zero
    have h1 := all_any hD (Nat.zero_le _) (Nat.zero_le _)
    rw [hp] at h1
    refine h1.mono fun _ _ ⟨v, e, ho, hb⟩ => ?_
    obtain ⟨a, c, rfl⟩ := owns_len ho
    exact ⟨a, c, e, h.later hb⟩
set_option maxRecDepth 100000 in
set_option maxHeartbeats 2000000 in
theorem drain_gone (h : NSt w0 X x y w) (hv : Gone X v) (n : Int) : Calls Try.prog 17 #[v, .int .i64 n] w (StN w0 X x y) := by
  rcases hv with rfl | rfl
  · have HH := Lib.hid h
    clear h
    go_enter Try.func17, Try.ntmps17
    go_wp2_with (fail)
    go_ret
    exact ⟨none, 0, rfl, HH.out⟩
  · obtain ⟨D, hp, hD, hh⟩ := h.zero
    have h1 := drain_any hD (Nat.zero_le _) n
    rw [hp] at h1
    refine h1.mono fun _ _ ⟨v, v2, e, hT, ho, _⟩ => ?_
    rw [List.take_nil] at ho
    rw [List.drop_nil] at hT
    obtain ⟨a, c, rfl⟩ := owns_len ho
    exact ⟨a, c, e, h.turn hp hh hT rfl⟩
set_option maxRecDepth 100000 in
set_option maxHeartbeats 2000000 in
theorem flush_gone (h : NSt w0 X x y w) (hv : Gone X v) : Calls Try.prog 19 #[v] w (StN w0 X x y) := by
  rcases hv with rfl | rfl
  · have HH := Lib.hid h
    clear h
    go_enter Try.func19, Try.ntmps19
    go_wp2_with (fail)
    go_ret
    exact ⟨none, 0, rfl, HH.out⟩
  · have HA := Lib.hid (all_gone h (.inr rfl))
    clear h
    go_enter Try.func19, Try.ntmps19
    go_wp2_with (fail)
    refine HA.out.mono ?_
    rintro e w1 ⟨a, c, rfl, h⟩
    obtain ⟨D, hp, hD, hh⟩ := h.zero
    have c1 := hD.c1
    have c2 := hD.c2
    have f1 := hD.fz 1
    have f2 := hD.fz 2
    have hT := hD.none2
    rw [hp] at c1 c2 f1 f2 hT
    have HH := Lib.hid (h.turn hp hh hT (hp ▸ rfl))
    obtain ⟨la, lc, hl⟩ := hD.ls
    obtain ⟨oa, oc, ho⟩ := hD.os
    rw [hl] at c1
    rw [ho] at c2
    clear HA h hD hT hl ho hh
    go_wp2_with (fail)
    go_ret
    exact ⟨a, c, rfl, HH.out⟩
end
set_option maxRecDepth 100000 in
set_option maxHeartbeats 8000000 in
theorem lawDNone_any (x y n : Int) (w : World) : Calls Try.prog 5 #[.agg #[.int .i64 x, .int .i64 y], .int .i64 n] w fun e w' => e = .returned (.bool true) ∧ Below w.heap.size w w' := by
  have ha1 : Below w.heap.size w (w.alloc (.cells #[.int .i64 x, .int .i64 y] 38)) := (Below.refl _ _).alloc (Nat.le_refl _) _
  have hx1 := obj_row w x y
  have hs1 : (w.alloc (.cells #[.int .i64 x, .int .i64 y] 38)).heap.size = w.heap.size + 1 := by simp
  obtain ⟨w1, hw1⟩ : ∃ w1, w.alloc (.cells #[.int .i64 x, .int .i64 y] 38) = w1 := ⟨_, rfl⟩
  rw [hw1] at ha1 hx1 hs1
  have n0 : ∀ k, (Value.slice none 0 0).ownBlock ≠ some k := fun k e => by cases e
  have ha2 : Below w1.heap.size w1 (w1.alloc (.cells #[.int .i64 0, .slice none 0 0, .slice none 0 0] 49)) := (Below.refl _ _).alloc (Nat.le_refl _) _
  have hz2 : DAt (w1.alloc (.cells #[.int .i64 0, .slice none 0 0, .slice none 0 0] 49)) ⟨w1.heap.size, .slice none 0 0, .slice none 0 0⟩ 0 [] [] :=
    ⟨RowAt.new w1 _ _ _ _ fun i hi => by rcases (show i = 0 ∨ i = 1 ∨ i = 2 by omega) with rfl | rfl | rfl <;> rfl, World.ownsRow_nil _ _ _ _, World.ownsRow_nil _ _ _ _, n0 _, n0 _, fun k _ => n0 k⟩
  have hs2 : (w1.alloc (.cells #[.int .i64 0, .slice none 0 0, .slice none 0 0] 49)).heap.size = w.heap.size + 2 := by simp; omega
  obtain ⟨w2, hw2⟩ : ∃ w2, w1.alloc (.cells #[.int .i64 0, .slice none 0 0, .slice none 0 0] 49) = w2 := ⟨_, rfl⟩
  rw [hw2] at ha2 hz2 hs2
  rw [hs1] at hz2
  have ha3 : Below w2.heap.size w2 (w2.alloc (.cells #[.pointer none, .pointer (some ⟨w.heap.size + 1, 0, none⟩)] 24)) := (Below.refl _ _).alloc (Nat.le_refl _) _
  have hr3 : RowAt (w2.alloc (.cells #[.pointer none, .pointer (some ⟨w.heap.size + 1, 0, none⟩)] 24)) w2.heap.size 2 (noneV (w.heap.size + 1)) := RowAt.new w2 _ _ _ _ fun i hi => by
    rcases (show i = 0 ∨ i = 1 by omega) with rfl | rfl <;> rfl
  rw [hs2] at hr3
  have hx3 := (hx1.later ha2).later ha3
  have hz3 := hz2.later ha3
  have hb3 := (ha1.trans (ha2.mono ha1.size)).trans (ha3.mono (by omega))
  obtain ⟨w3, hw3⟩ : ∃ w3, w2.alloc (.cells #[.pointer none, .pointer (some ⟨w.heap.size + 1, 0, none⟩)] 24) = w3 := ⟨_, rfl⟩
  rw [hw3] at hr3 hx3 hz3 hb3
  have HS := Lib.hid (show NSt w w.heap.size x y w3 from ⟨rfl, hb3, hx3, hr3, _, rfl, hz3, fun k hk => by
    rcases hk with rfl | hk | hk
    · exact ⟨Nat.le_succ _, by dsimp only; omega, by dsimp only; omega⟩
    · exact absurd hk (n0 k)
    · exact absurd hk (n0 k)⟩)
  have HW := Lib.hid (show ((w.alloc (.cells #[.int .i64 x, .int .i64 y] 38)).alloc (.cells #[.int .i64 0, .slice none 0 0, .slice none 0 0] 49)).alloc (.cells #[.pointer none, .pointer (some ⟨w.heap.size + 1, 0, none⟩)] 24) = w3 by rw [hw1, hw2, hw3])
  clear ha1 hx1 hs1 hw1 ha2 hz2 hs2 hw2 ha3 hr3 hx3 hz3 hb3 hw3 n0
  go_enter Try.func5, Try.ntmps5
  go_wp2_with (fail)
  rw [show w.heap.size + 1 + 1 = w.heap.size + 2 from rfl, HW.out]
  clear HW
  obtain ⟨X, hX⟩ : ∃ X, w.heap.size = X := ⟨_, rfl⟩
  rw [hX] at HS ⊢
  have HXX := Lib.hid hX
  clear hX
  go_loopw [14] (fun i wr => ∃ k : Nat, k ≤ 2 ∧ i = .int .i64 k ∧ Hid (NSt w X x y wr)) (fun i _ => 2 - (intOf i).toNat)
  case atStart => exact ⟨0, by omega, rfl, HS⟩
  case round =>
    clear HS
    obtain ⟨k, hk, rfl, HS⟩ := hrel
    by_cases hlt : k < 2
    · have hltI : (k : Int) < 2 := by omega
      have c0 : wr.cell? ⟨X + 2, k, none⟩ = some (noneV (X + 1) k) := HS.out.lst.cell k hlt
      have b0 : wr.cell? ⟨X, 0, none⟩ = some (.int .i64 x) := HS.out.box.cell 0 (by decide)
      have b1 : wr.cell? ⟨X, 1, none⟩ = some (.int .i64 y) := HS.out.box.cell 1 (by decide)
      have hv : Gone X (noneV (X + 1) k) := by
        unfold noneV
        by_cases h0 : k = 0
        · rw [if_pos h0]; exact .inl rfl
        · rw [if_neg h0]; exact .inr rfl
      have HV := Lib.hid hv
      have HLT := Lib.hid hlt
      clear hv hlt
      generalize noneV (X + 1) k = v at *
      go_wp2_with (fail)
      refine (queue_gone HS.out HV.out x y).mono ?_
      rintro e w4 ⟨rfl, h⟩
      have HS4 := Lib.hid h
      clear h HS c0 b0 b1
      go_wp2_with (fail)
      refine (get_gone HS4.out HV.out).mono ?_
      rintro e w5 ⟨rfl, h⟩
      have HS5 := Lib.hid h
      have b0 : w5.cell? ⟨X, 0, none⟩ = some (.int .i64 x) := h.box.cell 0 (by decide)
      have b1 : w5.cell? ⟨X, 1, none⟩ = some (.int .i64 y) := h.box.cell 1 (by decide)
      clear h HS4
      have hba : Below w5.heap.size w5 (w5.alloc (.cells #[.int .i64 x, .int .i64 y] 38)) := (Below.refl _ _).alloc (Nat.le_refl _) _
      have HS6 := Lib.hid (HS5.out.later hba)
      clear hba HS5
      go_wp2_with (fail)
      refine (put_gone HS6.out HV.out).mono ?_
      rintro e w7 ⟨rfl, h⟩
      have HS7 := Lib.hid h
      clear h HS6 b0 b1
      go_wp2_with (fail)
      refine (rounds_gone HS7.out HV.out).mono ?_
      rintro e w8 ⟨rfl, h⟩
      have HS8 := Lib.hid h
      clear h HS7
      go_wp2_with (fail)
      refine (fulls_gone HS8.out HV.out).mono ?_
      rintro e w9 ⟨rfl, h⟩
      have HS9 := Lib.hid h
      clear h HS8
      go_wp2_with (fail)
      refine (queued_gone HS9.out HV.out).mono ?_
      rintro e w10 ⟨rfl, h⟩
      have HS10 := Lib.hid h
      clear h HS9
      go_wp2_with (fail)
      refine (drain_gone HS10.out HV.out n).mono ?_
      rintro e w11 ⟨a1, q1, rfl, h⟩
      have HS11 := Lib.hid h
      clear h HS10
      go_wp2_with (fail)
      refine (all_gone HS11.out HV.out).mono ?_
      rintro e w12 ⟨a2, q2, rfl, h⟩
      have HS12 := Lib.hid h
      clear h HS11
      go_wp2_with (fail)
      refine (flush_gone HS12.out HV.out).mono ?_
      rintro e w13 ⟨a3, q3, rfl, h⟩
      have HS13 := Lib.hid h
      clear h HS12
      go_wp2_with (fail)
      go_roundw
      case rel => exact ⟨k + 1, HLT.out, by go_num, HS13⟩
      case measure => have := HLT.out; simp [intOf]; omega
    · obtain rfl : k = 2 := by omega
      rw [show ((2 : Nat) : Int) = 2 from rfl]
      go_wp2_with (fail)
      refine (known_any dep_ok _).mono ?_
      rintro e w6 ⟨rfl, hb⟩
      have HBF := Lib.hid (show Below w.heap.size w w6 from HS.out.bel.trans (hb.mono HS.out.bel.size))
      clear hb HS
      go_wp2_with (fail)
      go_ret
      exact ⟨rfl, HBF.out⟩
end Go.Proofs.Ytagnipkannogoaa
