/-
  The walk of ClockNone, for whatever clock.
-/
import Derived.Test.YtndddfkebbeemaaClOk
import Derived.Test.YtndddfkebbeemaaRangeP
import Derived.Deep.LoopGhost
namespace Go.Proofs.Ytndddfkebbeemaa
open Go.RowKit Go.Shelf Go
attribute [local go_sem] Oper.semAt_some

def cnF (u : Nat → Value) (frame : Int) (rc lb : Nat) (k : Nat) : List Value :=
  [.int .i64 frame, u 1, .pointer (some ⟨rc, 0, none⟩), u 3, .slice (some ⟨lb, 0, none⟩) 2 2, u 5, u 6, u 7, u 8, u 9, u 10, .int .i64 2, .int .i64 k, u 13, u 14, u 15, u 16, u 17, u 18, u 19, u 20, u 21, u 22, u 23, u 24, u 25, u 26, u 27, u 28, u 29, u 30, u 31, u 32, u 33, u 34, u 35, u 36, u 37, u 38, u 39, u 40, u 41, u 42, u 43, u 44, u 45, u 46, u 47, u 48, u 49, u 50, u 51, u 52, u 53, u 54, u 55, u 56, u 57, u 58, u 59, u 60, u 61, u 62, u 63, u 64, u 65, u 66, u 67, u 68]
set_option maxRecDepth 100000 in
theorem cn_frame {t : Array Value} {frame : Int} {rc lb : Nat} {k : Nat} (hs : t.size = 69) (h0 : t[0]? = some (Value.int .i64 frame)) (h2 : t[2]? = some (Value.pointer (some ⟨rc, 0, none⟩))) (h4 : t[4]? = some (Value.slice (some ⟨lb, 0, none⟩) 2 2)) (h11 : t[11]? = some (Value.int .i64 2)) (h12 : t[12]? = some (Value.int .i64 k)) :
    ∃ u, t = (cnF u frame rc lb k).toArray := by
  refine ⟨fun i => t.getD i undef, ?_⟩
  have hu : ∀ i v, t[i]? = some v → t.getD i undef = v := fun i v h => by
    obtain ⟨hl, rfl⟩ := Array.getElem?_eq_some_iff.1 h
    simp [Array.getD, hl]
  have e : t = ((List.range 69).map fun i => t.getD i undef).toArray := by
    apply Array.ext
    · simp [hs]
    · intro i h1 h2
      simp [Array.getD, h1]
  refine e.trans ?_
  congr 1
  obtain ⟨u, hu2⟩ : ∃ u : Nat → Value, u = fun i => t.getD i undef := ⟨_, rfl⟩
  rw [← hu2]
  unfold cnF
  rw [← (show u 0 = .int .i64 frame by rw [hu2]; exact hu 0 _ h0)]
  rw [← (show u 2 = .pointer (some ⟨rc, 0, none⟩) by rw [hu2]; exact hu 2 _ h2)]
  rw [← (show u 4 = .slice (some ⟨lb, 0, none⟩) 2 2 by rw [hu2]; exact hu 4 _ h4)]
  rw [← (show u 11 = .int .i64 2 by rw [hu2]; exact hu 11 _ h11)]
  rw [← (show u 12 = .int .i64 k by rw [hu2]; exact hu 12 _ h12)]
  rfl
def nonesV (z : Nat) (i : Nat) : Value := .pointer (if i = 0 then none else some ⟨z, 0, none⟩)
/-- The law's world: the zero clock and the list of both lie, ranges' blocks. -/
structure CnAt (IsZ : Thg → Option Nat → Prop) (w : World) (rc zb lb : Nat) (Ds : List Nat) (W : World) : Prop where
  res : RowAt W rc 1 (fun _ => .bool false)
  lst : RowAt W lb 2 (nonesV zb)
  zero : ∃ X, IsZ X (some zb) ∧ X.At W
  bel : Below w.heap.size w W
  nd : Ds.Nodup
  ds : ∀ D ∈ Ds, W.heap[D]? = some (.deferred (some [])) ∧ lb < D
  le : w.heap.size ≤ rc ∧ rc ≤ lb
section
variable {IsZ : Thg → Option Nat → Prop} {w W W' : World} {rc zb lb D : Nat} {Ds : List Nat}
theorem CnAt.later (h : CnAt IsZ w rc zb lb Ds W) (hb : Below W.heap.size W W') : CnAt IsZ w rc zb lb Ds W' :=
  ⟨h.res.later hb, h.lst.later hb, by
    obtain ⟨X, h1, h2⟩ := h.zero
    exact ⟨X, h1, X.later h2 hb⟩, h.bel.trans (hb.mono h.bel.size), h.nd, fun D hD => ⟨(hb.block D (Array.getElem?_eq_some_iff.1 (h.ds D hD).1).1).trans (h.ds D hD).1, (h.ds D hD).2⟩, h.le⟩
theorem CnAt.more (h : CnAt IsZ w rc zb lb Ds W) (hb : Below W.heap.size W W') (hD : W.heap.size ≤ D) (hk : W'.heap[D]? = some (.deferred (some []))) : CnAt IsZ w rc zb lb (D :: Ds) W' := by
  have h2 := h.later hb
  refine ⟨h2.res, h2.lst, h2.zero, h2.bel, List.nodup_cons.2 ⟨fun hm => ?_, h.nd⟩, fun E hE => ?_, h.le⟩
  · have := (Array.getElem?_eq_some_iff.1 (h.ds D hm).1).1
    omega
  · rcases List.mem_cons.1 hE with rfl | hE
    · exact ⟨hk, Nat.lt_of_lt_of_le h.lst.lt hD⟩
    · exact h2.ds E hE
end
section
variable {IsC : Thg → Nat → List Fr → Prop} (ok : ClOk IsC) {IsZ : Thg → Option Nat → Prop} {zc : Array Value} (no : ClNone IsZ zc)
include no
/-- One of both. -/
theorem CnAt.one {w W : World} {rc zb lb : Nat} {Ds : List Nat} (h : CnAt IsZ w rc zb lb Ds W) (k : Nat) (hk : k < 2) : ∃ (d : Option Nat), nonesV zb k = .pointer (d.map fun d => ⟨d, 0, none⟩) ∧ ∀ W', Below W.heap.size W W' → ∃ X, IsZ X d ∧ X.At W' := by
  by_cases h0 : k = 0
  · subst h0
    obtain ⟨X, h1, h2⟩ := no.nil
    exact ⟨none, rfl, fun W' _ => ⟨X, h1, h2 W'⟩⟩
  · obtain rfl : k = 1 := by omega
    obtain ⟨X, h1, h2⟩ := h.zero
    exact ⟨some zb, rfl, fun W' hb => ⟨X, h1, X.later h2 hb⟩⟩
include ok
set_option maxRecDepth 100000 in
set_option maxHeartbeats 8000000 in
theorem lawCNone_in (q : Nat) (hm : 8 ≤ q) (frame : Int) (w : World) (hI : InZ frame) :
    CallsIn Fence.wide q Try.prog 6 #[.int .i64 frame] w fun e w' => e = .returned (.bool true) ∧ Below w.heap.size w w' := by
  have h1 : 1 ≤ q := by omega
  have hv := no.val
  refine callsIn_of_wp_marks Try.func6 rfl trivial ?_ rfl
  simp only [Try.ntmps6, List.size_toArray, List.length_cons, List.length_nil, Nat.reduceAdd, Nat.reduceSub, Array.replicate_succ, Array.replicate_zero, List.push_toArray, List.append_toArray, List.nil_append, List.cons_append]
  refine wpIn_wide.2 ?_
  obtain ⟨W1, hW1⟩ : ∃ W1, ((w.alloc (.cells #[.bool false] 4)).alloc (.cells zc 48)).alloc (.cells #[.pointer none, .pointer (some ⟨w.heap.size + 1, 0, none⟩)] 24) = W1 := ⟨_, rfl⟩
  have HS1 := Lib.hid (show CnAt IsZ w w.heap.size (w.heap.size + 1) (w.heap.size + 1 + 1) [] W1 from by
    have hr := RowAt.new w #[.bool false] 4 1 (fun _ => .bool false) (fun i hi => by
      obtain rfl : i = 0 := by omega
      rfl)
    obtain ⟨X, z1, z2, _⟩ := no.zero (w.alloc (.cells #[.bool false] 4))
    have hl := RowAt.new ((w.alloc (.cells #[.bool false] 4)).alloc (.cells zc 48)) #[.pointer none, .pointer (some ⟨w.heap.size + 1, 0, none⟩)] 24 2 (nonesV (w.heap.size + 1)) (fun i hi => by
      rcases (show i = 0 ∨ i = 1 by omega) with rfl | rfl <;> rfl)
    rw [World.size_alloc] at z1
    rw [World.size_alloc, World.size_alloc] at hl
    rw [← hW1]
    exact ⟨(hr.alloc _).alloc _, hl, ⟨X, z1, X.later z2 ((Below.refl _ _).alloc (Nat.le_refl _) _)⟩, (((Below.refl _ w).alloc (Nat.le_refl _) _).alloc (by simp) _).alloc (by simp; omega) _, List.nodup_nil, fun D hD => absurd hD List.not_mem_nil, by omega, by omega⟩)
  go_wp2_with (fail)
  clear hW1 hv
  generalize hrc : w.heap.size = rc at *
  generalize rc + 1 = zb at *
  generalize zb + 1 = lb at *
  refine wp_loop_ghost (fun j a' W => ∃ (k : Nat) (Ds : List Nat), j = 2 - k ∧ k ≤ 2 ∧ a'.tmps.size = 69 ∧ a'.tmps[0]? = some (.int .i64 frame) ∧ a'.tmps[2]? = some (.pointer (some ⟨rc, 0, none⟩)) ∧ a'.tmps[4]? = some (.slice (some ⟨lb, 0, none⟩) 2 2) ∧
    a'.tmps[11]? = some (.int .i64 2) ∧ a'.tmps[12]? = some (.int .i64 k) ∧ a'.defers = colls Ds ∧ CnAt IsZ w rc zb lb Ds W) 2
    ⟨0, [], rfl, Nat.zero_le _, rfl, rfl, rfl, rfl, rfl, rfl, rfl, HS1.out⟩ ?_
  clear HS1
  rintro j ⟨tm, df⟩ wr ⟨k, Ds, rfl, hk, s0, t0, t2, t4, t11, t12, rfl, hA⟩
  dsimp only at s0 t0 t2 t4 t11 t12
  obtain ⟨u, rfl⟩ := cn_frame s0 t0 t2 t4 t11 t12
  have HA := Lib.hid hA
  clear s0 t0 t2 t4 t11 t12 hA
  unfold cnF
  by_cases hlt : k < 2
  · have hklI : (k : Int) < 2 := by omega
    have cl := HA.out.lst.cell k hlt
    obtain ⟨dd, hdd, hX⟩ := CnAt.one no HA.out k hlt
    rw [hdd] at cl
    have HX := Lib.hid hX
    clear hdd hX
    obtain ⟨pv, hpv⟩ : ∃ pv, Option.map (fun d : Nat => (⟨d, 0, none⟩ : Addr)) dd = pv := ⟨_, rfl⟩
    have HPV := Lib.hid hpv
    rw [hpv] at cl
    clear hpv
    obtain ⟨X0, z0, z0a⟩ := HX.out wr (Below.refl _ _)
    have HC := Lib.hid (no.next z0 z0a)
    rw [HPV.out] at HC
    clear z0 z0a
    go_wp2_with (fail)
    refine HC.out.mono ?_
    rintro e w1 ⟨rfl, hb⟩
    have HB1 := Lib.hid (hb)
    clear HC hb cl
    obtain ⟨X0, z0, z0a⟩ := HX.out w1 HB1.out
    have HC := Lib.hid (no.add frame hI z0 z0a)
    rw [HPV.out] at HC
    clear z0 z0a
    go_wp2_with (fail)
    refine HC.out.mono ?_
    rintro e w2 ⟨rfl, hb⟩
    have HB2 := Lib.hid (HB1.out.trans (hb.mono HB1.out.size))
    clear HC hb HB1
    obtain ⟨X0, z0, z0a⟩ := HX.out w2 HB2.out
    have HC := Lib.hid (no.remove frame hI z0 z0a)
    rw [HPV.out] at HC
    clear z0 z0a
    go_wp2_with (fail)
    refine HC.out.mono ?_
    rintro e w3 ⟨rfl, hb⟩
    have HB3 := Lib.hid (HB2.out.trans (hb.mono HB2.out.size))
    clear HC hb HB2
    obtain ⟨X0, z0, z0a⟩ := HX.out w3 HB3.out
    have HC := Lib.hid (no.touch frame hI z0 z0a)
    rw [HPV.out] at HC
    clear z0 z0a
    go_wp2_with (fail)
    refine HC.out.mono ?_
    rintro e w4 ⟨rfl, hb⟩
    have HB4 := Lib.hid (HB3.out.trans (hb.mono HB3.out.size))
    clear HC hb HB3
    obtain ⟨X0, z0, z0a⟩ := HX.out w4 HB4.out
    have HC := Lib.hid (no.len z0 z0a)
    rw [HPV.out] at HC
    clear z0 z0a
    go_wp2_with (fail)
    refine HC.out.mono ?_
    rintro e w5 ⟨rfl, hb⟩
    have HB5 := Lib.hid (HB4.out.trans (hb.mono HB4.out.size))
    clear HC hb HB4
    obtain ⟨X0, z0, z0a⟩ := HX.out w5 HB5.out
    have HC := Lib.hid (no.active z0 z0a)
    rw [HPV.out] at HC
    clear z0 z0a
    go_wp2_with (fail)
    refine HC.out.mono ?_
    rintro e w6 ⟨rfl, hb⟩
    have HB6 := Lib.hid (HB5.out.trans (hb.mono HB5.out.size))
    clear HC hb HB5
    obtain ⟨X0, z0, z0a⟩ := HX.out w6 HB6.out
    have HC := Lib.hid (no.has frame hI z0 z0a)
    rw [HPV.out] at HC
    clear z0 z0a
    go_wp2_with (fail)
    refine HC.out.mono ?_
    rintro e w7 ⟨rfl, hb⟩
    have HB7 := Lib.hid (HB6.out.trans (hb.mono HB6.out.size))
    clear HC hb HB6
    obtain ⟨X0, z0, z0a⟩ := HX.out w7 HB7.out
    have HC := Lib.hid (no.copy z0 z0a)
    rw [HPV.out] at HC
    clear z0 z0a
    go_wp2_with (fail)
    refine HC.out.mono ?_
    rintro e w8 ⟨rfl, hb⟩
    have HB8 := Lib.hid (HB7.out.trans (hb.mono HB7.out.size))
    clear HC hb HB7
    obtain ⟨X0, z0, z0a⟩ := HX.out w8 HB8.out
    have HC := Lib.hid (no.all z0 z0a)
    rw [HPV.out] at HC
    clear z0 z0a
    go_wp2_with (fail)
    refine HC.out.mono ?_
    rintro e w9 ⟨g0, lb0, own0, rfl, hb, _, hnil0, _, _⟩
    have HB9 := Lib.hid (HB8.out.trans (hb.mono HB8.out.size))
    clear HC hb HB8
    obtain ⟨X0, z0, z0a⟩ := HX.out w9 HB9.out
    have HC := Lib.hid (no.all z0 z0a)
    rw [HPV.out] at HC
    clear z0 z0a
    go_wp2_with (fail)
    clear hnil0
    refine HC.out.mono ?_
    rintro e w10 ⟨g1, lb1, own1, rfl, hb, hent1, _, hown1, hT1⟩
    have HB10 := Lib.hid (HB9.out.trans (hb.mono HB9.out.size))
    clear HC hb HB9 HX
    go_wp2_with (fail)
    refine (wpIn_wide (n := q)).1 ?_
    refine range_nilT q hm hT1 hent1 (fun k hk => (hown1 k hk).2) (fun _ => rfl) (by simp [go_sem]) (fun D W8 hD hb8 hk8 => ?_)
    have HA8 := Lib.hid (HA.out.more (HB10.out.trans (hb8.mono HB10.out.size)) (Nat.le_trans HB10.out.size hD) hk8)
    clear hT1 hent1 hown1 hD hb8 hk8 HA HB10
    go_wp2_with (fail)
    first | exact ⟨2 - (k + 1), by omega, k + 1, D :: Ds, rfl, hlt, rfl, rfl, rfl, rfl, rfl, rfl, rfl, HA8.out⟩ | exact ⟨2 - (k + 1), by omega, k + 1, rfl, hlt, by omega, D :: Ds, rfl, HA8.out⟩
  · obtain rfl : k = 2 := by omega
    rw [show ((2 : Nat) : Int) = 2 from rfl]
    go_wp2_with (fail)
    refine (cknown_any ok _).mono ?_
    rintro e w4 ⟨rfl, hb⟩
    have HA4 := Lib.hid (HA.out.later hb)
    clear hb HA
    have cr : w4.cell? ⟨rc, 0, none⟩ = some (.bool false) := HA4.out.res.cell 0 (by decide)
    have fr : w4.frozen? ⟨rc, 0, none⟩ = false := HA4.out.res.frozen 0
    have HRC5 := Lib.hid (HA4.out.res.setCell 0 (.bool true))
    have HB5 := Lib.hid (HA4.out.bel.setCell (p := ⟨rc, 0, none⟩) HA4.out.le.1 (.bool true))
    go_wp2_with (fail)
    have hDs : ∀ D ∈ Ds, rc ≠ D := fun D hD e => by have := (HA4.out.ds D hD).2; have := HA4.out.le; omega
    refine leaves_many Ds _ HA4.out.nd (fun D hD => ?_) (fun W' ho2 hs2 => ⟨.bool true, ?_, rfl, ?_⟩)
    · rw [Below.heap_setCell _ _ _ _ (fun e => hDs D hD e.symm)]
      exact (HA4.out.ds D hD).1
    · have hc := ho2.cell (b := rc) (o := 0) (v := .bool true) (fun hD => hDs _ hD rfl) (HRC5.out.cell 0 (by decide))
      simp [results, Try.f6, go_sem, hc]
    · exact ho2.below HB5.out HB5.out.size (fun D hD => by have := (HA4.out.ds D hD).2; have := HA4.out.le; omega)
theorem lawCNone_any (frame : Int) (w : World) (hI : InZ frame) :
    Calls Try.prog 6 #[.int .i64 frame] w fun e w' => e = .returned (.bool true) ∧ Below w.heap.size w w' :=
  callsIn_wide.1 (lawCNone_in ok no 8 (Nat.le_refl _) frame w hI)
end
end Go.Proofs.Ytndddfkebbeemaa
