/-
  cache: may, New, Drop of the landed one.
-/
import Derived.Test.YtlimbcpghfddkaaCaTake
namespace Go.Proofs.Ytlimbcpghfddkaa
open Go.RowKit Go Go.Maps

theorem make_bytesK : ∃ Z : Array Value, (∀ i, i < 256 → Z[i]? = some (byV (fun _ => 0) i)) ∧
    ∀ W, (Instr.makeSlice 34 (.int .i64 256) (.int .i64 256)).run Try.prog W = .ok (.slice (some ⟨W.heap.size, 0, none⟩) 256 256) (W.alloc (.cells Z 5)) := by
  obtain ⟨i0, hi, hz0, hz1, hz2⟩ := info_parts infoByte
  refine ⟨madeCells #[Value.int .u8 0] 256, fun i h => ?_, fun W => ?_⟩
  · have h1 := made_at #[Value.int .u8 0] 256 i h
    rw [Array.getElem?_toList] at h1
    have : i % (#[Value.int .u8 0] : Array Value).size = 0 := Nat.mod_one i
    rw [h1, this]; rfl
  · have h := run_make (P := Try.prog) W 34 5 i0 _ Try.underlying34 hi hz0 .i64 .i64 256 256 (by omega) (by omega) (by rw [hz2]; omega) (by omega)
    rw [hz1] at h
    exact h
theorem make_map (t : TypeId) (W : World) : (Instr.makeMap t none).run Try.prog W = .ok (.map (some W.heap.size)) (W.alloc (.map #[] 0)) := rfl
section
variable {w W : World} {K K' : KC} {A A' : Ca} {x : Int}
set_option maxRecDepth 100000 in
set_option maxHeartbeats 2000000 in
theorem kmay_any (size colour : Int) (w : World) : Calls Try.prog 35 #[.int .i64 size, .int .i64 colour] w fun e w' => e = .returned (.bool (mayC size colour)) ∧ Below w.heap.size w w' := by
  obtain ⟨Z, hZ, hmk⟩ := make_bytesK
  have HZR := Lib.hid (RowAt.new w Z 5 256 _ hZ)
  have HB1 := Lib.hid ((Below.refl w.heap.size w).alloc (Nat.le_refl _) (.cells Z 5))
  clear hZ
  cases hm : mayC size colour with
  | true =>
    have hm' := hm
    unfold mayC at hm'
    obtain ⟨m1, m2, m3, m4, m5, m6⟩ := of_decide_eq_true hm'
    obtain ⟨sz, rfl⟩ : ∃ sz : Nat, size = sz := ⟨size.toNat, by omega⟩
    obtain ⟨co, rfl⟩ : ∃ co : Nat, colour = co := ⟨colour.toNat, by omega⟩
    have HM := Lib.hid hm
    clear hm hm' m1 m2 m3 m4 m5 m6
    go_enter Try.func35, Try.ntmps35
    go_wp2_with (fail)
    clear hmk
    generalize w.alloc (.cells Z 5) = w1 at *
    refine (chain_ok.new sz co w.heap.size 256 _ w1 HM.out (Nat.le_refl _) HZR.out).mono ?_
    rintro e w2 ⟨C, rfl, _, _, _, ho, _⟩
    have HB := Lib.hid (ho.below HB1.out HB1.out.size (fun k hk => by omega))
    clear ho HB1 HZR
    go_wp2_with (fail)
    go_ret
    exact ⟨rfl, HB.out⟩
  | false =>
    have HM := Lib.hid hm
    clear hm
    go_enter Try.func35, Try.ntmps35
    go_wp2_with (fail)
    clear hmk
    generalize w.alloc (.cells Z 5) = w1 at *
    refine (chain_ok.newNo (some ⟨w.heap.size, 0, none⟩) 256 256 size colour w1 (.inr HM.out)).mono ?_
    rintro e w2 ⟨rfl, hb⟩
    have HB := Lib.hid (HB1.out.trans (hb.mono HB1.out.size))
    clear hb HB1 HZR
    go_wp2_with (fail)
    go_ret
    exact ⟨rfl, HB.out⟩
/-- A new one, or none. -/
def KNew (w : World) (sz : Nat) (e : Ending) (w' : World) : Prop :=
  ∃ K : KC, e = .returned (.tuple #[.pointer (some ⟨K.c, 0, none⟩), .int .i64 0]) ∧ CaAt w' K ⟨sz, 0, []⟩ ∧ Below w.heap.size w w' ∧ ∀ k, K.all [] k → w.heap.size ≤ k
set_option maxRecDepth 100000 in
set_option maxHeartbeats 2000000 in
theorem knew_no (size : Int) (w : World) (h : mayC size 0 = false) : Calls Try.prog 10 #[.int .i64 size] w fun e w' => e = .returned (.tuple #[.pointer none, .int .i64 2]) ∧ Below w.heap.size w w' := by
  have HM := Lib.hid (kmay_any size 0 w)
  rw [h] at HM
  clear h
  go_enter Try.func10, Try.ntmps10
  go_wp2_with (fail)
  refine HM.out.mono ?_
  rintro e w1 ⟨rfl, hb⟩
  have HB := Lib.hid hb
  clear hb HM
  go_wp2_with (fail)
  go_ret2
  exact ⟨rfl, HB.out⟩
set_option maxRecDepth 100000 in
set_option maxHeartbeats 2000000 in
theorem knew_any (sz : Nat) (w : World) (h : mayC sz 0 = true) : Calls Try.prog 10 #[.int .i64 sz] w (KNew w sz) := by
  have HM := Lib.hid (kmay_any sz 0 w)
  rw [h] at HM
  have HH := Lib.hid h
  have hmk := make_map
  clear h
  go_enter Try.func10, Try.ntmps10
  go_wp2_with (fail)
  refine HM.out.mono ?_
  rintro e w1 ⟨rfl, hb⟩
  have HN := Lib.hid (show KNew w sz (.returned (.tuple #[.pointer (some ⟨w1.heap.size + 1, 0, none⟩), .int .i64 0])) ((w1.alloc (.map #[] 0)).alloc (.cells #[.int .i64 sz, .int .i64 0, .map (some w1.heap.size)] 59)) from by
    have hs : (w1.alloc (.map #[] 0)).heap.size = w1.heap.size + 1 := by simp
    have hle := hb.size
    have hb2 : Below (w1.alloc (.map #[] 0)).heap.size (w1.alloc (.map #[] 0)) ((w1.alloc (.map #[] 0)).alloc (.cells #[.int .i64 sz, .int .i64 0, .map (some w1.heap.size)] 59)) := (Below.refl _ _).alloc (Nat.le_refl _) _
    have hb1 : Below w1.heap.size w1 (w1.alloc (.map #[] 0)) := (Below.refl _ _).alloc (Nat.le_refl _) _
    have hr := RowAt.new (w1.alloc (.map #[] 0)) #[.int .i64 sz, .int .i64 0, .map (some w1.heap.size)] 59 3 (caV ⟨sz, 0, []⟩ w1.heap.size) (fun i hi => by
      rcases (show i = 0 ∨ i = 1 ∨ i = 2 by omega) with rfl | rfl | rfl <;> rfl)
    rw [hs] at hr
    refine ⟨⟨w1.heap.size + 1, w1.heap.size, fun _ => ⟨0, 0, 0, fun _ => False⟩⟩, rfl, ⟨hr, ((fmap_made Try.prog 3 elemPtr w1).later hb2).ext (fun _ => rfl), by show w1.heap.size + 1 ≠ w1.heap.size; omega, Fam.nil, ⟨HH.out, List.Pairwise.nil, fun _ h => absurd h List.not_mem_nil, fun _ h => absurd h List.not_mem_nil, fun _ h => absurd h List.not_mem_nil⟩, fun _ h => absurd h List.not_mem_nil⟩, (hb.trans (hb1.mono hle)).trans (hb2.mono (by omega)), ?_⟩
    rintro k ((hk | hk) | ⟨p, hp, _⟩)
    · rw [hk]
      show w.heap.size ≤ w1.heap.size + 1
      omega
    · rw [hk]
      exact hle
    · exact absurd hp List.not_mem_nil)
  clear hb HM HH
  go_wp2_with (fail)
  go_ret2
  exact HN.out
theorem mapS_cut {g : Int → SC} {L : List Pl} (hr : Rise L) (x : Int) (y : Int) : fcut (mapS g L) x y = mapS g (cutL L x) y := by
  unfold fcut mapS
  rw [findL_cut hr]
  split <;> rfl
/-- One slab is none any more. -/
theorem CaAt.cut (R : CaAt w K A) (hm : FMap Try.prog 3 elemPtr W K.m (fcut (mapS K.g A.L) x)) (ho : Only (fun k => k = K.m) w W) : KTurn w K A noB (fun x => (K.g x).b) K (A.cutted x) W := by
  have hall : ∀ k, famB SC.all K.g (cutL A.L x) k → famB SC.all K.g A.L k := fun k hk => famB_sub (fun p hp => (mem_cutL.1 hp).1) hk
  refine ⟨⟨R.row.only ho R.ne, hm.ext (mapS_cut R.inv.rise x), R.ne, (R.fam.sub (fun p hp => (mem_cutL.1 hp).1)).only famP ho (fun k hk e => ?_), R.inv.cutted, fun p hp => R.wf p (mem_cutL.1 hp).1⟩, rfl, ho.mono (fun k hk => .inl (.inl (.inr hk))), fun k hk => .inl (hk.elim .inl (fun hk => .inr (hall k hk))), fun _ => rfl, fun _ => rfl, fun _ k hk => hk.elim .inl (fun hk => .inr (hall k hk))⟩
  · obtain ⟨p, hp, hk⟩ := hall k hk
    exact R.fam.off p hp k hk (.inr e)
/-- Dropped, or not; and only the map has turned. -/
def KPostD (w : World) (K : KC) (A : Ca) (q : Int × Ca) (e : Ending) (w' : World) : Prop :=
  KPost1 w K A q e w' ∧ Only (fun k => k = K.m) w w'
set_option maxRecDepth 100000 in
set_option maxHeartbeats 2000000 in
theorem kdropH_any (R : CaAt w K A) (x : Int) (hx : (Lit.int .i64 x).wf = true) : Calls Try.prog 19 #[.pointer (some ⟨K.c, 0, none⟩), .int .i64 x] w (KPostD w K A (A.drop x)) := by
  have HS := Lib.hid (kslab_any R x hx)
  unfold KSlab at HS
  cases hf : findL A.L x with
  | none =>
    have hz : A.drop x = (7, A) := by unfold Ca.drop; rw [hf]
    rw [hz]
    have HP := Lib.hid (show KPostD w K A (7, A) (.returned (.int .i64 7)) w from ⟨⟨rfl, K, KTurn.same R⟩, Only.refl _ _⟩)
    rw [hf] at HS
    unfold ptrF at HS
    clear R hz hf
    go_enter Try.func19, Try.ntmps19
    go_wp2_with (fail)
    refine HS.out.mono ?_
    rintro e w1 ⟨rfl, rfl⟩
    go_wp2_with (fail)
    go_ret
    exact HP.out
  | some S =>
    have hz : A.drop x = if S.ch.length = S.n then (0, A.cutted x) else (80, A) := by unfold Ca.drop; rw [hf]
    rw [hf] at HS
    unfold ptrF at HS
    have hp := findL_mem hf
    have hS := R.fam.at_ _ hp
    have HE := Lib.hid (ask_empty w (K.g x) ⟨x, S⟩ hS)
    have HR := Lib.hid R
    by_cases hb : S.ch.length = S.n
    · rw [if_pos hb] at hz
      rw [hz]
      rw [show Pl.emp ⟨x, S⟩ = true from decide_eq_true hb] at HE
      have HFIN := Lib.hid (fun (W W2 : World) (hb : Below w.heap.size w W) (h1 : FMap Try.prog 3 elemPtr W2 K.m (fcut (mapS K.g A.L) x)) (h2 : Only (fun k => k = K.m) W W2) =>
        show KPostD w K A (0, A.cutted x) (.returned (.int .i64 0)) W2 from by
          have hT := (HR.out.later hb).cut h1 h2
          exact ⟨⟨rfl, K, hT.at_, hT.c, (Only.of_below hb).trans hT.only, fun k hk => (hT.new k hk).elim .inl (fun h => h.elim (fun h => .inr (.inl h)) (fun h => .inr (.inr (Nat.le_trans hb.size h)))), hT.b, hT.keep, hT.sub⟩, (Only.of_below hb).trans h2⟩)
      clear R hz hf hp hS hb
      go_enter Try.func19, Try.ntmps19
      go_wp2_with (fail)
      refine HS.out.mono ?_
      rintro e w1 ⟨rfl, rfl⟩
      go_wp2_with (fail)
      refine HE.out.mono ?_
      rintro e w2 ⟨rfl, hb⟩
      have HB := Lib.hid hb
      have hR2 := HR.out.later hb
      have c2 := hR2.c2
      have hM := hR2.map
      clear hb hR2 HE HS
      go_wp2_with (first | (at_delete; (refine wpList_drop_fmap rfl _ _ _ _ rfl 41 Try.underlying3 Try.underlying57 elemPtr K.m (mapS K.g A.L) rfl hM x rfl hx ?_; intro w3 h1 h2)) | fail)
      have HP := Lib.hid (HFIN.out w2 w3 HB.out h1 h2)
      clear h1 h2 c2 hM
      go_ret
      exact HP.out
    · rw [if_neg hb] at hz
      rw [hz]
      rw [show Pl.emp ⟨x, S⟩ = false from decide_eq_false hb] at HE
      clear R hz hf hp hS hb
      go_enter Try.func19, Try.ntmps19
      go_wp2_with (fail)
      refine HS.out.mono ?_
      rintro e w1 ⟨rfl, rfl⟩
      go_wp2_with (fail)
      refine HE.out.mono ?_
      rintro e w2 ⟨rfl, hb⟩
      have HP := Lib.hid (show KPostD w K A (80, A) (.returned (.int .i64 80)) w2 from ⟨⟨rfl, K, (KTurn.same HR.out).later hb⟩, Only.of_below hb⟩)
      clear hb HE HS
      go_wp2_with (fail)
      go_ret
      exact HP.out
theorem kdrop_any (R : CaAt w K A) (x : Int) (hx : (Lit.int .i64 x).wf = true) : Calls Try.prog 19 #[.pointer (some ⟨K.c, 0, none⟩), .int .i64 x] w (KPost1 w K A (A.drop x)) :=
  (kdropH_any R x hx).mono fun _ _ h => h.1
end
end Go.Proofs.Ytlimbcpghfddkaa
