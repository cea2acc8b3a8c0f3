/-
  chain: the landed slab: link, Take, Give, Mark, Clear.
-/
import Derived.Test.YtlimbcpghfddkaaChAt
namespace Go.Proofs.Ytlimbcpghfddkaa
open Go.RowKit Go

/-- clear on a part of a row of bytes. -/
theorem run_clear_row {P : Program} {ts e : TypeId} (ht : P.underlying ts = some (.slice e)) (hz : ∀ w, (zeroValue e).run P w = .ok (.int .u8 0) w) (T : TypeId) (b o n c N : Nat) (f : Nat → Value) (W : World) (R : RowAt W b N f) (h : o + n ≤ N) (hn : 0 < n) :
    ∃ W', (Builtin.clear_ #[ts] T #[.slice (some ⟨b, o, none⟩) n c]).run P W = .ok (.tuple #[]) W' ∧ RowAt W' b N (putF f o n (fun _ => .int .u8 0)) ∧ Only (fun k => k = b) W W' := by
  obtain ⟨A, t, hA, hf⟩ := R
  have hs : N ≤ A.size := by
    by_cases h0 : N = 0
    · omega
    · have := (Array.getElem?_eq_some_iff.1 (hf (N - 1) (by omega))).1
      omega
  have hst := run_storeCells_at (P := P) b o t ((List.range n).map (fun _ => Value.int .u8 0)) 0 A W hA (by simp; omega) (by simp [Value.oneCell'])
  obtain ⟨m, rfl⟩ : ∃ m, n = m + 1 := ⟨n - 1, by omega⟩
  refine ⟨_, ?_, RowAt.setRow_splice hA hf o (m + 1) (fun _ => .int .u8 0) h, Only.setRow (S := fun k => k = b) W b rfl _⟩
  unfold Builtin.clear_
  simp [run_underlying ht, Result.andThen]
  rw [hz W]
  simp only [Nat.add_zero, List.length_map, List.length_range, List.append_assoc] at hst
  have e : (Builtin.zeroCells (Value.int IntKind.u8 0).cells (m + 1)).toList = (List.range (m + 1)).map (fun _ => Value.int .u8 0) := by
    apply List.ext_getElem
    · simp [Builtin.zeroCells, Value.cells]
    · intro i h1 h2
      simp [Builtin.zeroCells, Value.cells, Nat.mod_one]
  simp only [e]
  rw [hst]
section
variable {w w' : World} {s bb bc : Nat} {S : Sl} {fi fr : Int}
set_option maxRecDepth 100000 in
set_option maxHeartbeats 2000000 in
theorem plink_any {f k : Nat} (R : PAt w s bb bc S f fr) (hk : k < S.n) (hf : f < 256) (hfr : 0 ≤ fr ∧ fr ≤ 1000) :
    Calls Try.prog 56 #[.pointer (some ⟨s, 0, none⟩), .int .i64 k] w fun e w' => e = .returned (.tuple #[]) ∧ PAt w' s bb bc { S with bt := updC S.bt (S.pos k) (UInt8.ofNat f) } k (fr + 1) ∧ Only (fun q => q = s ∨ q = bb) w w' := by
  have HA := pat_any R k
  have hh := has_nat.2 hk
  have hz : S.place k = ((S.pos k : Int), (S.pos k + S.sz : Int)) := by unfold Sl.place; rw [if_pos hh, Int.toNat_natCast]
  rw [hz] at HA
  have HA2 := Lib.hid HA
  have hfit := pos_fit R.may hk
  have p1 := (may_parts R.may).1
  have hp256 : ((S.pos k : Nat) : Int) < 256 := by omega
  have HR := Lib.hid R
  have hx : (UInt8.ofNat f).toNat = f := UInt8.toNat_ofNat_of_lt' (by simpa [UInt8.size] using hf)
  obtain ⟨p, hp⟩ : ∃ p, S.pos k = p := ⟨_, rfl⟩
  have hfI : (f : Int) < 256 := by omega
  obtain ⟨h1, h2⟩ := hfr
  rw [hp] at HA2 hfit hp256 ⊢
  have hpn : p < 256 := by omega
  have hne := R.ne
  clear HA hz hh R hk hp hfit p1
  go_enter Try.func56, Try.ntmps56
  go_wp2_with (fail)
  refine HA2.out.mono ?_
  rintro e w1 ⟨rfl, hb⟩
  have HR1 := Lib.hid (HR.out.later hb)
  have HB1 := Lib.hid hb
  have HRD := Lib.hid ((HR.out.later hb).later (Below.refl w1.heap.size w1).drew)
  have c0 := HR1.out.c0
  have c3 := HR1.out.c3
  clear hb HA2
  go_wp2_with (fail)
  have e1 : IntKind.u8.wrap (f : Int) = (f : Int) := by rw [IntKind.wrap_u8]; omega
  have L0 := Lib.hid (show ∀ V, Only (fun k => k = bb) w1.drew V → (loadVar 34 ⟨s, 0, none⟩).run Try.prog V = .ok (.slice (some ⟨bb, 0, none⟩) 256 bc) V from fun V hV => run_loadVar_cell (fun _ => by kernel_rfl) (hV.cell hne (by exact c0)))
  have L3 := Lib.hid (show ∀ V, Only (fun k => k = bb) w1.drew V → (loadVar 3 ⟨s, 3, none⟩).run Try.prog V = .ok (.int .i64 f) V from fun V hV => run_loadVar_cell (fun _ => by kernel_rfl) (hV.cell hne (by exact c3)))
  have HST := Lib.hid (HRD.out.setBt (p := p) (UInt8.ofNat f))
  rw [hx] at HST
  have cb : w1.drew.cell? ⟨bb, p, none⟩ = some (.int .u8 (S.bt p).toNat) := HRD.out.byt.cell p hpn
  have fb : w1.drew.frozen? ⟨bb, p, none⟩ = false := HRD.out.byt.frozen p
  have HO1 := Lib.hid (show Only (fun q => q = s ∨ q = bb) w w1.drew from Only.of_below (HB1.out.drew))
  generalize (S.bt p).toNat = old at *
  clear HB1 HRD HR1 HR c0 c3
  refine wp_region_lex1 (Only (fun k => k = bb) w1.drew) [(0, false), (1, false), (2, false), (3, false), (4, false), (5, false), (6, false), (7, false), (8, false), (9, false), (10, false), (11, true)]
    (by kernel_rfl) (by kernel_rfl) rfl (by kernel_rfl) (Only.refl _ _) ?_
  intro V0 hV0 hK0
  clear hK0
  subst hV0
  generalize w1.drew = V0 at *
  refine lexH_yieldE rfl rfl ?_
  apply Exists.intro
  refine ⟨fun W hW => ?_, ?_⟩
  focus (go_simp; exact rfl)
  simp only [List.getElem_toArray, List.getElem_cons_zero, Act.put, List.setIfInBounds_toArray, List.set_cons_zero, List.set_cons_succ]
  refine lexH_yieldE rfl rfl ?_
  apply Exists.intro
  refine ⟨fun W hW => ?_, ?_⟩
  focus (go_simp; exact rfl)
  simp only [List.getElem_toArray, List.getElem_cons_succ, List.getElem_cons_zero, Act.put, List.setIfInBounds_toArray, List.set_cons_zero, List.set_cons_succ]
  refine lexH_yieldE rfl rfl ?_
  apply Exists.intro
  refine ⟨fun W hW => ?_, ?_⟩
  focus (go_simp; exact rfl)
  simp only [List.getElem_toArray, List.getElem_cons_succ, List.getElem_cons_zero, Act.put, List.setIfInBounds_toArray, List.set_cons_zero, List.set_cons_succ]
  refine lexH_load rfl rfl _ _ rfl rfl L0.out ?_
  simp only [List.getElem_toArray, List.getElem_cons_succ, List.getElem_cons_zero, Act.put, List.setIfInBounds_toArray, List.set_cons_zero, List.set_cons_succ]
  refine lexH_yieldE rfl rfl ?_
  apply Exists.intro
  refine ⟨fun W hW => ?_, ?_⟩
  focus (go_simp; exact rfl)
  simp only [List.getElem_toArray, List.getElem_cons_succ, List.getElem_cons_zero, Act.put, List.setIfInBounds_toArray, List.set_cons_zero, List.set_cons_succ]
  refine lexH_yieldE rfl rfl ?_
  apply Exists.intro
  refine ⟨fun W hW => ?_, ?_⟩
  focus (go_simp; exact rfl)
  simp only [List.getElem_toArray, List.getElem_cons_succ, List.getElem_cons_zero, Act.put, List.setIfInBounds_toArray, List.set_cons_zero, List.set_cons_succ]
  refine lexH_yieldE rfl rfl ?_
  apply Exists.intro
  refine ⟨fun W hW => ?_, ?_⟩
  focus (go_simp; exact rfl)
  simp only [List.getElem_toArray, List.getElem_cons_succ, List.getElem_cons_zero, Act.put, List.setIfInBounds_toArray, List.set_cons_zero, List.set_cons_succ]
  refine lexH_yieldE rfl rfl ?_
  apply Exists.intro
  refine ⟨fun W hW => ?_, ?_⟩
  focus (go_simp; exact rfl)
  simp only [List.getElem_toArray, List.getElem_cons_succ, List.getElem_cons_zero, Act.put, List.setIfInBounds_toArray, List.set_cons_zero, List.set_cons_succ]
  refine lexH_load rfl rfl _ _ rfl rfl L3.out ?_
  simp only [List.getElem_toArray, List.getElem_cons_succ, List.getElem_cons_zero, Act.put, List.setIfInBounds_toArray, List.set_cons_zero, List.set_cons_succ]
  refine lexH_yieldE rfl rfl ?_
  apply Exists.intro
  refine ⟨fun W hW => ?_, ?_⟩
  focus (go_simp; exact rfl)
  simp only [List.getElem_toArray, List.getElem_cons_succ, List.getElem_cons_zero, Act.put, List.setIfInBounds_toArray, List.set_cons_zero, List.set_cons_succ]
  refine lexH_yieldE rfl rfl ?_
  apply Exists.intro
  refine ⟨fun W hW => ?_, ?_⟩
  focus (go_simp; exact rfl)
  simp only [List.getElem_toArray, List.getElem_cons_succ, List.getElem_cons_zero, Act.put, List.setIfInBounds_toArray, List.set_cons_zero, List.set_cons_succ]
  refine lexH_eff rfl rfl ?_
  unfold Oper.wp
  go_simp
  refine ⟨Only.setCell (S := fun k => k = bb) _ ⟨bb, p, none⟩ rfl _, ?_⟩
  clear L0 L3 cb fb
  refine lexH_nil ?_
  have R2 := HST.out.1
  have HO2 := Lib.hid (HO1.out.trans (HST.out.2.mono (fun q hq => .inr hq)))
  clear HST HO1
  generalize V0.setCell ⟨bb, p, none⟩ (.int .u8 f) = V2 at *
  have f3 : V2.frozen? ⟨s, 3, none⟩ = false := R2.row.frozen 3
  have c3 := R2.c3
  have hs3 := R2.setFi k
  have c4 := hs3.1.c4
  have f4 : (V2.setCell ⟨s, 3, none⟩ (.int .i64 k)).frozen? ⟨s, 4, none⟩ = false := hs3.1.row.frozen 4
  have hs4 := hs3.1.setFr (fr + 1)
  have HF := Lib.hid (show PAt ((V2.setCell ⟨s, 3, none⟩ (.int .i64 k)).setCell ⟨s, 4, none⟩ (.int .i64 (fr + 1))) s bb bc { S with bt := updC S.bt p (UInt8.ofNat f) } k (fr + 1) ∧ Only (fun q => q = s ∨ q = bb) w ((V2.setCell ⟨s, 3, none⟩ (.int .i64 k)).setCell ⟨s, 4, none⟩ (.int .i64 (fr + 1))) from
    ⟨hs4.1, (HO2.out.trans (hs3.2.mono (fun q hq => .inl hq))).trans (hs4.2.mono (fun q hq => .inl hq))⟩)
  have e4 : IntKind.i64.wrap (fr + 1) = fr + 1 := by rw [IntKind.wrap_i64]; omega
  clear hs3 hs4 R2 HO2
  go_wp2_with (fail)
  go_end0
  exact ⟨rfl, HF.out⟩
end
/-- The landed slab, and what its chain has. -/
structure SlAt (w : World) (C : SC) (S : Sl) : Prop where
  at_ : PAt w C.s C.b C.bc S (S.ch.getD 0 255 : Nat) (S.ch.length : Nat)
  inv : SlI S
  own : ∀ k, C.own k ↔ k = C.s
  cap : 256 ≤ C.bc
section
variable {w w' : World} {C : SC} {S : Sl}
theorem SlAt.later (A : SlAt w C S) (h : Below w.heap.size w w') : SlAt w' C S := ⟨A.at_.later h, A.inv, A.own, A.cap⟩
theorem SlI.first (I : SlI S) : S.ch.getD 0 255 < 256 := by
  have h1 := I.parts.2.2.2.1
  cases h : S.ch with
  | nil => exact (by decide : 255 < 256)
  | cons i l =>
    have := I.lt i (by rw [h]; simp)
    show i < 256
    omega
theorem SlAt.turned (A : SlAt w C S) {S' : Sl} {w' : World} (R : PAt w' C.s C.b C.bc S' (S'.ch.getD 0 255 : Nat) (S'.ch.length : Nat)) (I : SlI S') : SlAt w' C S' := ⟨R, I, A.own, A.cap⟩
theorem SlAt.all (A : SlAt w C S) {k : Nat} (h : k = C.s ∨ k = C.b) : C.all k := by
  rcases h with h | h
  · exact .inl ((A.own k).2 h)
  · exact .inr h
theorem SPost1.same {q : Int} (A : SlAt w C S) {w' : World} (h : Below w.heap.size w w') : SPost1 SlAt w C (q, S) (.returned (.int .i64 q)) w' := ⟨rfl, A.later h, Only.of_below h⟩
set_option maxRecDepth 100000 in
set_option maxHeartbeats 2000000 in
theorem pclr_any (A : SlAt w C S) (i : Int) : Calls Try.prog 25 #[.pointer (some ⟨C.s, 0, none⟩), .int .i64 i] w (SPost1 SlAt w C (S.clr i)) := by
  have HK := Lib.hid (pasked_any A.at_ i)
  have HA := Lib.hid A
  cases hh : S.has i with
  | false =>
    have hz : S.clr i = (2, S) := by unfold Sl.clr; rw [if_pos hh]
    rw [hz]
    rw [hh, if_neg (by decide)] at HK
    clear hz A hh
    go_enter Try.func25, Try.ntmps25
    go_wp2_with (fail)
    refine HK.out.mono ?_
    rintro e w1 ⟨rfl, hb⟩
    have HP := Lib.hid (SPost1.same (q := 2) HA.out hb)
    clear hb
    go_wp2_with (fail)
    go_ret
    exact HP.out
  | true =>
    have hi := has_iff.1 hh
    have hn := A.at_.n32
    obtain ⟨k, rfl⟩ : ∃ k : Nat, i = k := ⟨i.toNat, by omega⟩
    have hk32 : (k : Int) < 32 := by omega
    have hkn : k < 32 := by omega
    rw [hh, if_pos rfl] at HK
    have HL := Lib.hid (fun W (h : Below w.heap.size w W) => plive_any (A.at_.later h) k)
    by_cases ht : S.tu k = 0
    · have hz : S.clr k = (7, S) := by unfold Sl.clr; rw [if_neg (by rw [hh]; decide), if_pos (by rw [Int.toNat_natCast]; exact ht)]
      have hl : S.live k = (0, false) := by unfold Sl.live; rw [if_neg (fun h => h.2 (by rw [Int.toNat_natCast]; exact ht))]
      rw [hz]
      rw [hl] at HL
      clear hz hl A hh ht hi hn
      go_enter Try.func25, Try.ntmps25
      go_wp2_with (fail)
      refine HK.out.mono ?_
      rintro e w1 ⟨rfl, hb⟩
      have HB1 := Lib.hid hb
      clear hb
      go_wp2_with (fail)
      refine (HL.out w1 HB1.out).mono ?_
      rintro e w2 ⟨rfl, hb⟩
      have HP := Lib.hid (SPost1.same (q := 7) HA.out (HB1.out.trans (hb.mono HB1.out.size)))
      clear hb
      go_wp2_with (fail)
      go_ret
      exact HP.out
    · have hz : S.clr k = (0, { S with tu := updC S.tu k 0 }) := by unfold Sl.clr; rw [if_neg (by rw [hh]; decide), if_neg (by rw [Int.toNat_natCast]; exact ht), Int.toNat_natCast]
      have hl : S.live k = (S.tu k, true) := by unfold Sl.live; rw [if_pos ⟨hh, by rw [Int.toNat_natCast]; exact ht⟩, Int.toNat_natCast]
      have HI := Lib.hid (show SlI { S with tu := updC S.tu k 0 } by
        have h := A.inv.clr k
        rw [hz] at h
        exact h)
      rw [hz]
      rw [hl] at HL
      clear hz hl A hh ht hi hn
      go_enter Try.func25, Try.ntmps25
      go_wp2_with (fail)
      refine HK.out.mono ?_
      rintro e w1 ⟨rfl, hb⟩
      have HB1 := Lib.hid hb
      clear hb
      go_wp2_with (fail)
      refine (HL.out w1 HB1.out).mono ?_
      rintro e w2 ⟨rfl, hb⟩
      have HB2 := Lib.hid (HB1.out.trans (hb.mono HB1.out.size))
      clear hb
      have R2 := HA.out.at_.later HB2.out
      have fr : w2.frozen? ⟨C.s, 37 + k, none⟩ = false := R2.row.frozen _
      have ct := R2.ct hkn
      have hs := R2.setTu hkn 0
      have HP := Lib.hid (show SPost1 SlAt w C (0, { S with tu := updC S.tu k 0 }) (.returned (.int .i64 0)) (w2.setCell ⟨C.s, 37 + k, none⟩ (.int .u64 0)) from
        ⟨rfl, HA.out.turned hs.1 HI.out, (Only.of_below HB2.out).trans (hs.2.mono (fun q hq => HA.out.all (.inl hq)))⟩)
      clear hs R2 HL
      generalize S.tu k = t at *
      go_wp2_with (fail)
      go_ret
      exact HP.out
end
end Go.Proofs.Ytlimbcpghfddkaa
