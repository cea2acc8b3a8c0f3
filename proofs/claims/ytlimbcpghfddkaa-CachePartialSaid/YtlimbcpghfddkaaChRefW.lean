/-
  chain's document: what turns in a slab; write.
-/
import Derived.Test.YtlimbcpghfddkaaChRefM
namespace Go.Proofs.Ytlimbcpghfddkaa
open Go.RowKit Go

section
variable {w w' : World} {r bb bc : Nat} {S : Sl} {v : Value}
theorem CRef.setOut (R : CRef w r bb bc S v) {i : Nat} (h : i < 32) (t : Bool) : CRef (w.setCell ⟨r, 5 + i, none⟩ (.bool t)) r bb bc { S with out := updC S.out i t } v ∧ Only (fun k => k = r) w (w.setCell ⟨r, 5 + i, none⟩ (.bool t)) := by
  have ho : Only (fun k => k = r) w (w.setCell ⟨r, 5 + i, none⟩ (.bool t)) := Only.setCell (S := fun k => k = r) _ ⟨r, 5 + i, none⟩ rfl _
  refine ⟨⟨(R.row.setCell (5 + i) _).ext fun k hk => ?_, R.byt.only ho (fun e => R.ne e.symm), R.chn.only ho (fun k hk => .inl hk), R.ne⟩, ho⟩
  by_cases e : k = 5 + i
  · subst e
    rw [crV_out _ bb bc v h]
    unfold updV
    rw [if_pos rfl]
    show Value.bool t = Value.bool (updC S.out i t i)
    rw [updC_same]
  · unfold updV
    rw [if_neg e]
    by_cases h0 : 5 ≤ k ∧ k < 37
    · obtain ⟨j, rfl⟩ : ∃ j, k = 5 + j := ⟨k - 5, by omega⟩
      rw [crV_out S bb bc v (by omega), crV_out _ bb bc v (by omega)]
      show _ = Value.bool (updC S.out i t j)
      rw [updC_other _ (by omega)]
    · unfold crV
      repeat' split
      all_goals first | rfl | omega
theorem CRef.setCh (R : CRef w r bb bc S v) {v' : Value} {l : List Nat} (h : ChIn w r bb v' l) : CRef (w.setCell ⟨r, 4, none⟩ v') r bb bc { S with ch := l } v' ∧ Only (fun k => k = r) w (w.setCell ⟨r, 4, none⟩ v') := by
  have ho : Only (fun k => k = r) w (w.setCell ⟨r, 4, none⟩ v') := Only.setCell (S := fun k => k = r) _ ⟨r, 4, none⟩ rfl _
  refine ⟨⟨(R.row.setCell 4 _).ext fun k hk => ?_, R.byt.only ho (fun e => R.ne e.symm), h.only ho (fun k hk => .inl hk), R.ne⟩, ho⟩
  unfold updV
  by_cases e : k = 4
  · subst e
    rfl
  · rw [if_neg e]
    unfold crV
    rw [if_neg e, if_neg e]
    rfl
theorem CRef.setBt (R : CRef w r bb bc S v) {p : Nat} (x : UInt8) : CRef (w.setCell ⟨bb, p, none⟩ (.int .u8 x.toNat)) r bb bc { S with bt := updC S.bt p x } v ∧ Only (fun k => k = bb) w (w.setCell ⟨bb, p, none⟩ (.int .u8 x.toNat)) := by
  have ho : Only (fun k => k = bb) w (w.setCell ⟨bb, p, none⟩ (.int .u8 x.toNat)) := Only.setCell (S := fun k => k = bb) _ ⟨bb, p, none⟩ rfl _
  refine ⟨⟨R.row.only ho R.ne, (R.byt.setCell p _).ext fun k hk => ?_, R.chn.only ho (fun k hk => .inr hk), R.ne⟩, ho⟩
  unfold updV byV
  dsimp only
  unfold updC
  split <;> rfl
theorem nxt_last {l : List Nat} {j : Nat} (h : l.length ≤ j) : (nxt l j).toNat = 255 := by
  unfold nxt
  rw [List.getD_eq_getElem?_getD, List.getElem?_eq_none h]
  rfl
theorem nxt_at {l : List Nat} {j d : Nat} (h : j < l.length) (hl : l.getD j d < 256) : (nxt l j).toNat = l.getD j d := by
  have e : l.getD j 255 = l.getD j d := by rw [List.getD_eq_getElem?_getD, List.getD_eq_getElem?_getD, List.getElem?_eq_getElem h]; rfl
  unfold nxt
  rw [e, UInt8.toNat_ofNat_of_lt' (by simpa [UInt8.size] using hl)]
theorem wrap_pos {co e sz p : Nat} (h : p = co + e * sz) (hp : p < 256) : IntKind.i64.wrap ((co : Int) + IntKind.i64.wrap ((e : Int) * (sz : Int))) = (p : Int) := by
  obtain ⟨m, hm⟩ : ∃ m : Nat, e * sz = m := ⟨_, rfl⟩
  have hmI : (e : Int) * (sz : Int) = (m : Int) := by rw [← hm]; simp
  rw [hm] at h
  rw [hmI]
  simp only [IntKind.wrap_i64]
  omega
/-- What write leaves. -/
def wrS (S : Sl) (k : Nat) : Sl := { S with bt := wrK S S.ch k S.bt }
set_option maxRecDepth 100000 in
set_option maxHeartbeats 4000000 in
theorem rwrite_any (R : CRef w r bb bc S v) (hm : mayC S.sz S.co = true) (hl : ∀ i ∈ S.ch, i < S.n) (hlen : S.ch.length ≤ 100) :
    Calls Try.prog 57 #[.pointer (some ⟨r, 0, none⟩)] w fun e w' => e = .returned (.tuple #[]) ∧ CRef w' r bb bc (wrS S S.ch.length) v ∧ Only (fun k => k = bb) w w' := by
  obtain ⟨n32, _⟩ := cnt_le hm
  have hn32 : S.n ≤ 32 := n32
  have hp := may_parts hm
  have HR := Lib.hid R
  have HM := Lib.hid hm
  clear R
  go_enter Try.func57, Try.ntmps57
  go_wp2_with (fail)
  go_loopw [2] (fun i wr => ∃ k : Nat, k ≤ S.ch.length ∧ i = .int .i64 k ∧ Hid (CRef wr r bb bc (wrS S k) v) ∧ Hid (Only (fun k => k = bb) w wr)) (fun i _ => S.ch.length - (intOf i).toNat)
  case atStart => exact ⟨0, Nat.zero_le _, rfl, HR.out, Only.refl _ _⟩
  case round =>
    clear HR
    obtain ⟨k, hk, rfl, HR, HO⟩ := hrel
    have c4 := HR.out.c4
    obtain ⟨a, c, hv0, _, hch⟩ := HR.out.chn
    have hv : v = .slice a S.ch.length c := hv0
    have hlenE : (wrS S k).ch.length = S.ch.length := rfl
    rw [hv] at c4
    rw [hlenE] at hch
    clear hv0 hlenE
    by_cases hlt : k < S.ch.length
    · have hltI : (k : Int) < (S.ch.length : Int) := by omega
      obtain ⟨b, o, rfl, hbr, hbb, ce0⟩ := hch k hlt
      have ce : wr.cell? ⟨b, o + k, none⟩ = some (.int .i64 (S.ch.getD k 0)) := ce0
      clear ce0
      have hmem : S.ch.getD k 0 ∈ S.ch := getD_mem hlt
      have hen := hl _ hmem
      have hfit := pos_fit hm hen
      have hp256 : S.pos (S.ch.getD k 0) < 256 := by omega
      have HST := Lib.hid (show ∀ x : UInt8, x = nxt S.ch (k + 1) → CRef (wr.drew.setCell ⟨bb, S.pos (S.ch.getD k 0), none⟩ (.int .u8 x.toNat)) r bb bc (wrS S (k + 1)) v ∧ Only (fun k => k = bb) w (wr.drew.setCell ⟨bb, S.pos (S.ch.getD k 0), none⟩ (.int .u8 x.toNat)) from fun x hx => by
        subst hx
        have h1 := (HR.out.later (Below.refl wr.heap.size wr).drew).setBt (p := S.pos (S.ch.getD k 0)) (nxt S.ch (k + 1))
        exact ⟨h1.1, (HO.out.trans (Only.of_below (Below.refl wr.heap.size wr).drew)).trans h1.2⟩)
      have hne := HR.out.ne
      have c0 := HR.out.c0
      have c1 : wr.cell? ⟨r, 1, none⟩ = some (.int .i64 S.sz) := HR.out.c1
      have c2 : wr.cell? ⟨r, 2, none⟩ = some (.int .i64 S.co) := HR.out.c2
      have L0 := Lib.hid (show ∀ V, Only (fun k => k = bb) wr.drew V → (loadVar 34 ⟨r, 0, none⟩).run Try.prog V = .ok (.slice (some ⟨bb, 0, none⟩) 256 bc) V from fun V hV => run_loadVar_cell (fun _ => by kernel_rfl) (hV.cell hne (by exact c0)))
      have L1 := Lib.hid (show ∀ V, Only (fun k => k = bb) wr.drew V → (loadVar 3 ⟨r, 1, none⟩).run Try.prog V = .ok (.int .i64 S.sz) V from fun V hV => run_loadVar_cell (fun _ => by kernel_rfl) (hV.cell hne (by exact c1)))
      have L2 := Lib.hid (show ∀ V, Only (fun k => k = bb) wr.drew V → (loadVar 3 ⟨r, 2, none⟩).run Try.prog V = .ok (.int .i64 S.co) V from fun V hV => run_loadVar_cell (fun _ => by kernel_rfl) (hV.cell hne (by exact c2)))
      have L4 := Lib.hid (show ∀ V, Only (fun k => k = bb) wr.drew V → (loadVar 52 ⟨r, 4, none⟩).run Try.prog V = .ok (.slice (some ⟨b, o, none⟩) S.ch.length c) V from fun V hV => run_loadVar_cell (fun _ => by kernel_rfl) (hV.cell hne (by exact c4)))
      have LE := Lib.hid (show ∀ V, Only (fun k => k = bb) wr.drew V → (loadVar 3 ⟨b, o + k, none⟩).run Try.prog V = .ok (.int .i64 (S.ch.getD k 0)) V from fun V hV => run_loadVar_cell (fun _ => by kernel_rfl) (hV.cell hbb (by exact ce)))
      have hbc : wr.drew.cell? ⟨bb, S.pos (S.ch.getD k 0), none⟩ = some (byV (wrS S k).bt (S.pos (S.ch.getD k 0))) := (HR.out.byt.later (Below.refl wr.heap.size wr).drew).cell _ hp256
      have hbf : wr.drew.frozen? ⟨bb, S.pos (S.ch.getD k 0), none⟩ = false := (HR.out.byt.later (Below.refl wr.heap.size wr).drew).frozen _
      unfold byV at hbc
      have hwe := wrap_pos (show S.pos (S.ch.getD k 0) = S.co + S.ch.getD k 0 * S.sz from rfl) hp256
      have hpI : (S.pos (S.ch.getD k 0) : Int) < 256 := by omega
      clear ce c1 c2
      generalize S.pos (S.ch.getD k 0) = p at *
      generalize S.ch.getD k 0 = e at *
      generalize (wrS S k).bt p = old at *
      have HLT := Lib.hid hlt
      clear hv
      have HK1 := Lib.hid (nxt_last (l := S.ch) (j := k + 1))
      have HK2 := Lib.hid (nxt_at (l := S.ch) (j := k + 1) (d := 0))
      by_cases hlt1 : k + 1 < S.ch.length
      · have hlt1I : (k : Int) + 1 < (S.ch.length : Int) := by omega
        obtain ⟨b', o', e', _, _, cn0⟩ := hch (k + 1) hlt1
        injection e' with e'
        injection e' with e1 e2 _
        subst e1
        subst e2
        have cn : wr.cell? ⟨b, o + (k + 1), none⟩ = some (.int .i64 (S.ch.getD (k + 1) 0)) := cn0
        clear cn0
        have hen1 := hl _ (getD_mem (d := 0) hlt1)
        have hx := HK2.out hlt1 (by omega)
        have hx256 : (S.ch.getD (k + 1) 0 : Int) < 256 := by omega
        generalize S.ch.getD (k + 1) 0 = e1 at *
        have hxI : ((nxt S.ch (k + 1)).toNat : Int) = (e1 : Int) := by omega
        have HX := Lib.hid hxI
        clear hx hxI hch HK1 HK2 HR
        generalize S.ch.length = ln at *
        generalize S.sz = sz at *
        generalize S.co = co at *
        go_wp2_with (fail)
        refine wp_region_lex1 (Only (fun k => k = bb) wr.drew) [(0, false), (1, false), (2, false), (3, false), (4, false), (5, false), (6, false), (7, false), (8, false), (9, false), (10, false), (11, false), (12, false), (13, false), (14, false), (15, false), (16, false), (17, false), (18, false), (19, false), (20, false), (21, false), (22, false), (23, true)]
          (by kernel_rfl) (by kernel_rfl) rfl (by kernel_rfl) (Only.refl _ _) ?_
        intro V0 hV0 hK0
        clear hK0
        subst hV0
        generalize wr.drew = V0 at *
        refine lexH_yieldE rfl rfl ?_
        apply Exists.intro
        refine ⟨fun W hW => ?_, ?_⟩
        focus (go_simp; exact rfl)
        simp only [List.getElem_toArray, List.getElem_cons_zero, Act.put, List.setIfInBounds_toArray, List.set_cons_zero, List.set_cons_succ]
        refine lexH_yieldE rfl rfl ?_
        apply Exists.intro
        refine ⟨fun W hW => ?_, ?_⟩
        focus (go_simp; exact rfl)
        simp only [List.getElem_toArray, List.getElem_cons_succ, List.getElem_cons_zero, Act.put, List.setIfInBounds_toArray, List.set_cons_zero, List.set_cons_succ]
        refine lexH_yieldE rfl rfl ?_
        apply Exists.intro
        refine ⟨fun W hW => ?_, ?_⟩
        focus (go_simp; exact rfl)
        simp only [List.getElem_toArray, List.getElem_cons_succ, List.getElem_cons_zero, Act.put, List.setIfInBounds_toArray, List.set_cons_zero, List.set_cons_succ]
        refine lexH_load rfl rfl _ _ rfl rfl L0.out ?_
        simp only [List.getElem_toArray, List.getElem_cons_succ, List.getElem_cons_zero, Act.put, List.setIfInBounds_toArray, List.set_cons_zero, List.set_cons_succ]
        refine lexH_yieldE rfl rfl ?_
        apply Exists.intro
        refine ⟨fun W hW => ?_, ?_⟩
        focus (go_simp; exact rfl)
        simp only [List.getElem_toArray, List.getElem_cons_succ, List.getElem_cons_zero, Act.put, List.setIfInBounds_toArray, List.set_cons_zero, List.set_cons_succ]
        refine lexH_yieldE rfl rfl ?_
        apply Exists.intro
        refine ⟨fun W hW => ?_, ?_⟩
        focus (go_simp; exact rfl)
        simp only [List.getElem_toArray, List.getElem_cons_succ, List.getElem_cons_zero, Act.put, List.setIfInBounds_toArray, List.set_cons_zero, List.set_cons_succ]
        refine lexH_yieldE rfl rfl ?_
        apply Exists.intro
        refine ⟨fun W hW => ?_, ?_⟩
        focus (go_simp; exact rfl)
        simp only [List.getElem_toArray, List.getElem_cons_succ, List.getElem_cons_zero, Act.put, List.setIfInBounds_toArray, List.set_cons_zero, List.set_cons_succ]
        refine lexH_load rfl rfl _ _ rfl rfl L2.out ?_
        simp only [List.getElem_toArray, List.getElem_cons_succ, List.getElem_cons_zero, Act.put, List.setIfInBounds_toArray, List.set_cons_zero, List.set_cons_succ]
        refine lexH_yieldE rfl rfl ?_
        apply Exists.intro
        refine ⟨fun W hW => ?_, ?_⟩
        focus (go_simp; exact rfl)
        simp only [List.getElem_toArray, List.getElem_cons_succ, List.getElem_cons_zero, Act.put, List.setIfInBounds_toArray, List.set_cons_zero, List.set_cons_succ]
        refine lexH_yieldE rfl rfl ?_
        apply Exists.intro
        refine ⟨fun W hW => ?_, ?_⟩
        focus (go_simp; exact rfl)
        simp only [List.getElem_toArray, List.getElem_cons_succ, List.getElem_cons_zero, Act.put, List.setIfInBounds_toArray, List.set_cons_zero, List.set_cons_succ]
        refine lexH_yieldE rfl rfl ?_
        apply Exists.intro
        refine ⟨fun W hW => ?_, ?_⟩
        focus (go_simp; exact rfl)
        simp only [List.getElem_toArray, List.getElem_cons_succ, List.getElem_cons_zero, Act.put, List.setIfInBounds_toArray, List.set_cons_zero, List.set_cons_succ]
        refine lexH_load rfl rfl _ _ rfl rfl L4.out ?_
        simp only [List.getElem_toArray, List.getElem_cons_succ, List.getElem_cons_zero, Act.put, List.setIfInBounds_toArray, List.set_cons_zero, List.set_cons_succ]
        refine lexH_yieldE rfl rfl ?_
        apply Exists.intro
        refine ⟨fun W hW => ?_, ?_⟩
        focus (go_simp; exact rfl)
        simp only [List.getElem_toArray, List.getElem_cons_succ, List.getElem_cons_zero, Act.put, List.setIfInBounds_toArray, List.set_cons_zero, List.set_cons_succ]
        refine lexH_yieldE rfl rfl ?_
        apply Exists.intro
        refine ⟨fun W hW => ?_, ?_⟩
        focus (go_simp; exact rfl)
        simp only [List.getElem_toArray, List.getElem_cons_succ, List.getElem_cons_zero, Act.put, List.setIfInBounds_toArray, List.set_cons_zero, List.set_cons_succ]
        refine lexH_load rfl rfl _ _ rfl rfl LE.out ?_
        simp only [List.getElem_toArray, List.getElem_cons_succ, List.getElem_cons_zero, Act.put, List.setIfInBounds_toArray, List.set_cons_zero, List.set_cons_succ]
        refine lexH_yieldE rfl rfl ?_
        apply Exists.intro
        refine ⟨fun W hW => ?_, ?_⟩
        focus (go_simp; exact rfl)
        simp only [List.getElem_toArray, List.getElem_cons_succ, List.getElem_cons_zero, Act.put, List.setIfInBounds_toArray, List.set_cons_zero, List.set_cons_succ]
        refine lexH_yieldE rfl rfl ?_
        apply Exists.intro
        refine ⟨fun W hW => ?_, ?_⟩
        focus (go_simp; exact rfl)
        simp only [List.getElem_toArray, List.getElem_cons_succ, List.getElem_cons_zero, Act.put, List.setIfInBounds_toArray, List.set_cons_zero, List.set_cons_succ]
        refine lexH_yieldE rfl rfl ?_
        apply Exists.intro
        refine ⟨fun W hW => ?_, ?_⟩
        focus (go_simp; exact rfl)
        simp only [List.getElem_toArray, List.getElem_cons_succ, List.getElem_cons_zero, Act.put, List.setIfInBounds_toArray, List.set_cons_zero, List.set_cons_succ]
        refine lexH_load rfl rfl _ _ rfl rfl L1.out ?_
        simp only [List.getElem_toArray, List.getElem_cons_succ, List.getElem_cons_zero, Act.put, List.setIfInBounds_toArray, List.set_cons_zero, List.set_cons_succ]
        refine lexH_yieldE rfl rfl ?_
        apply Exists.intro
        refine ⟨fun W hW => ?_, ?_⟩
        focus (go_simp; exact rfl)
        simp only [List.getElem_toArray, List.getElem_cons_succ, List.getElem_cons_zero, Act.put, List.setIfInBounds_toArray, List.set_cons_zero, List.set_cons_succ]
        refine lexH_yieldE rfl rfl ?_
        apply Exists.intro
        refine ⟨fun W hW => ?_, ?_⟩
        focus (go_simp; exact rfl)
        simp only [List.getElem_toArray, List.getElem_cons_succ, List.getElem_cons_zero, Act.put, List.setIfInBounds_toArray, List.set_cons_zero, List.set_cons_succ]
        refine lexH_yieldE rfl rfl ?_
        apply Exists.intro
        refine ⟨fun W hW => ?_, ?_⟩
        focus (go_simp; exact rfl)
        simp only [List.getElem_toArray, List.getElem_cons_succ, List.getElem_cons_zero, Act.put, List.setIfInBounds_toArray, List.set_cons_zero, List.set_cons_succ]
        refine lexH_yieldE rfl rfl ?_
        apply Exists.intro
        refine ⟨fun W hW => ?_, ?_⟩
        focus (go_simp; exact rfl)
        simp only [List.getElem_toArray, List.getElem_cons_succ, List.getElem_cons_zero, Act.put, List.setIfInBounds_toArray, List.set_cons_zero, List.set_cons_succ]
        refine lexH_eff rfl rfl ?_
        unfold Oper.wp
        go_simp
        refine ⟨Only.setCell (S := fun k => k = bb) _ ⟨bb, p, none⟩ rfl _, ?_⟩
        have h9 := HST.out _ rfl
        rw [HX.out] at h9
        have H9 := Lib.hid h9
        clear h9 HST HX L0 L1 L2 L4 LE
        refine lexH_nil ?_
        go_wp2_with (fail)
        go_roundw
        case rel => exact ⟨k + 1, HLT.out, by go_num, H9.out.1, H9.out.2⟩
        case measure => simp [intOf]; omega
      · have hlt1I : ¬ (k : Int) + 1 < (S.ch.length : Int) := by omega
        have hx := HK1.out (by omega)
        have hxI : ((nxt S.ch (k + 1)).toNat : Int) = 255 := by omega
        have HX := Lib.hid hxI
        clear hx hxI hch HK1 HK2 HR
        generalize S.ch.length = ln at *
        generalize S.sz = sz at *
        generalize S.co = co at *
        go_wp2_with (fail)
        refine wp_region_lex1 (Only (fun k => k = bb) wr.drew) [(0, false), (1, false), (2, false), (3, false), (4, false), (5, false), (6, false), (7, false), (8, false), (9, false), (10, false), (11, false), (12, false), (13, false), (14, false), (15, false), (16, false), (17, false), (18, false), (19, false), (20, false), (21, false), (22, false), (23, true)]
          (by kernel_rfl) (by kernel_rfl) rfl (by kernel_rfl) (Only.refl _ _) ?_
        intro V0 hV0 hK0
        clear hK0
        subst hV0
        generalize wr.drew = V0 at *
        refine lexH_yieldE rfl rfl ?_
        apply Exists.intro
        refine ⟨fun W hW => ?_, ?_⟩
        focus (go_simp; exact rfl)
        simp only [List.getElem_toArray, List.getElem_cons_zero, Act.put, List.setIfInBounds_toArray, List.set_cons_zero, List.set_cons_succ]
        refine lexH_yieldE rfl rfl ?_
        apply Exists.intro
        refine ⟨fun W hW => ?_, ?_⟩
        focus (go_simp; exact rfl)
        simp only [List.getElem_toArray, List.getElem_cons_succ, List.getElem_cons_zero, Act.put, List.setIfInBounds_toArray, List.set_cons_zero, List.set_cons_succ]
        refine lexH_yieldE rfl rfl ?_
        apply Exists.intro
        refine ⟨fun W hW => ?_, ?_⟩
        focus (go_simp; exact rfl)
        simp only [List.getElem_toArray, List.getElem_cons_succ, List.getElem_cons_zero, Act.put, List.setIfInBounds_toArray, List.set_cons_zero, List.set_cons_succ]
        refine lexH_load rfl rfl _ _ rfl rfl L0.out ?_
        simp only [List.getElem_toArray, List.getElem_cons_succ, List.getElem_cons_zero, Act.put, List.setIfInBounds_toArray, List.set_cons_zero, List.set_cons_succ]
        refine lexH_yieldE rfl rfl ?_
        apply Exists.intro
        refine ⟨fun W hW => ?_, ?_⟩
        focus (go_simp; exact rfl)
        simp only [List.getElem_toArray, List.getElem_cons_succ, List.getElem_cons_zero, Act.put, List.setIfInBounds_toArray, List.set_cons_zero, List.set_cons_succ]
        refine lexH_yieldE rfl rfl ?_
        apply Exists.intro
        refine ⟨fun W hW => ?_, ?_⟩
        focus (go_simp; exact rfl)
        simp only [List.getElem_toArray, List.getElem_cons_succ, List.getElem_cons_zero, Act.put, List.setIfInBounds_toArray, List.set_cons_zero, List.set_cons_succ]
        refine lexH_yieldE rfl rfl ?_
        apply Exists.intro
        refine ⟨fun W hW => ?_, ?_⟩
        focus (go_simp; exact rfl)
        simp only [List.getElem_toArray, List.getElem_cons_succ, List.getElem_cons_zero, Act.put, List.setIfInBounds_toArray, List.set_cons_zero, List.set_cons_succ]
        refine lexH_load rfl rfl _ _ rfl rfl L2.out ?_
        simp only [List.getElem_toArray, List.getElem_cons_succ, List.getElem_cons_zero, Act.put, List.setIfInBounds_toArray, List.set_cons_zero, List.set_cons_succ]
        refine lexH_yieldE rfl rfl ?_
        apply Exists.intro
        refine ⟨fun W hW => ?_, ?_⟩
        focus (go_simp; exact rfl)
        simp only [List.getElem_toArray, List.getElem_cons_succ, List.getElem_cons_zero, Act.put, List.setIfInBounds_toArray, List.set_cons_zero, List.set_cons_succ]
        refine lexH_yieldE rfl rfl ?_
        apply Exists.intro
        refine ⟨fun W hW => ?_, ?_⟩
        focus (go_simp; exact rfl)
        simp only [List.getElem_toArray, List.getElem_cons_succ, List.getElem_cons_zero, Act.put, List.setIfInBounds_toArray, List.set_cons_zero, List.set_cons_succ]
        refine lexH_yieldE rfl rfl ?_
        apply Exists.intro
        refine ⟨fun W hW => ?_, ?_⟩
        focus (go_simp; exact rfl)
        simp only [List.getElem_toArray, List.getElem_cons_succ, List.getElem_cons_zero, Act.put, List.setIfInBounds_toArray, List.set_cons_zero, List.set_cons_succ]
        refine lexH_load rfl rfl _ _ rfl rfl L4.out ?_
        simp only [List.getElem_toArray, List.getElem_cons_succ, List.getElem_cons_zero, Act.put, List.setIfInBounds_toArray, List.set_cons_zero, List.set_cons_succ]
        refine lexH_yieldE rfl rfl ?_
        apply Exists.intro
        refine ⟨fun W hW => ?_, ?_⟩
        focus (go_simp; exact rfl)
        simp only [List.getElem_toArray, List.getElem_cons_succ, List.getElem_cons_zero, Act.put, List.setIfInBounds_toArray, List.set_cons_zero, List.set_cons_succ]
        refine lexH_yieldE rfl rfl ?_
        apply Exists.intro
        refine ⟨fun W hW => ?_, ?_⟩
        focus (go_simp; exact rfl)
        simp only [List.getElem_toArray, List.getElem_cons_succ, List.getElem_cons_zero, Act.put, List.setIfInBounds_toArray, List.set_cons_zero, List.set_cons_succ]
        refine lexH_load rfl rfl _ _ rfl rfl LE.out ?_
        simp only [List.getElem_toArray, List.getElem_cons_succ, List.getElem_cons_zero, Act.put, List.setIfInBounds_toArray, List.set_cons_zero, List.set_cons_succ]
        refine lexH_yieldE rfl rfl ?_
        apply Exists.intro
        refine ⟨fun W hW => ?_, ?_⟩
        focus (go_simp; exact rfl)
        simp only [List.getElem_toArray, List.getElem_cons_succ, List.getElem_cons_zero, Act.put, List.setIfInBounds_toArray, List.set_cons_zero, List.set_cons_succ]
        refine lexH_yieldE rfl rfl ?_
        apply Exists.intro
        refine ⟨fun W hW => ?_, ?_⟩
        focus (go_simp; exact rfl)
        simp only [List.getElem_toArray, List.getElem_cons_succ, List.getElem_cons_zero, Act.put, List.setIfInBounds_toArray, List.set_cons_zero, List.set_cons_succ]
        refine lexH_yieldE rfl rfl ?_
        apply Exists.intro
        refine ⟨fun W hW => ?_, ?_⟩
        focus (go_simp; exact rfl)
        simp only [List.getElem_toArray, List.getElem_cons_succ, List.getElem_cons_zero, Act.put, List.setIfInBounds_toArray, List.set_cons_zero, List.set_cons_succ]
        refine lexH_load rfl rfl _ _ rfl rfl L1.out ?_
        simp only [List.getElem_toArray, List.getElem_cons_succ, List.getElem_cons_zero, Act.put, List.setIfInBounds_toArray, List.set_cons_zero, List.set_cons_succ]
        refine lexH_yieldE rfl rfl ?_
        apply Exists.intro
        refine ⟨fun W hW => ?_, ?_⟩
        focus (go_simp; exact rfl)
        simp only [List.getElem_toArray, List.getElem_cons_succ, List.getElem_cons_zero, Act.put, List.setIfInBounds_toArray, List.set_cons_zero, List.set_cons_succ]
        refine lexH_yieldE rfl rfl ?_
        apply Exists.intro
        refine ⟨fun W hW => ?_, ?_⟩
        focus (go_simp; exact rfl)
        simp only [List.getElem_toArray, List.getElem_cons_succ, List.getElem_cons_zero, Act.put, List.setIfInBounds_toArray, List.set_cons_zero, List.set_cons_succ]
        refine lexH_yieldE rfl rfl ?_
        apply Exists.intro
        refine ⟨fun W hW => ?_, ?_⟩
        focus (go_simp; exact rfl)
        simp only [List.getElem_toArray, List.getElem_cons_succ, List.getElem_cons_zero, Act.put, List.setIfInBounds_toArray, List.set_cons_zero, List.set_cons_succ]
        refine lexH_yieldE rfl rfl ?_
        apply Exists.intro
        refine ⟨fun W hW => ?_, ?_⟩
        focus (go_simp; exact rfl)
        simp only [List.getElem_toArray, List.getElem_cons_succ, List.getElem_cons_zero, Act.put, List.setIfInBounds_toArray, List.set_cons_zero, List.set_cons_succ]
        refine lexH_eff rfl rfl ?_
        unfold Oper.wp
        go_simp
        refine ⟨Only.setCell (S := fun k => k = bb) _ ⟨bb, p, none⟩ rfl _, ?_⟩
        have h9 := HST.out _ rfl
        rw [HX.out] at h9
        have H9 := Lib.hid h9
        clear h9 HST HX L0 L1 L2 L4 LE
        refine lexH_nil ?_
        go_wp2_with (fail)
        go_roundw
        case rel => exact ⟨k + 1, HLT.out, by go_num, H9.out.1, H9.out.2⟩
        case measure => simp [intOf]; omega
    · obtain rfl : k = S.ch.length := by omega
      go_wp2_with (fail)
      go_end0
      exact ⟨rfl, HR.out, HO.out⟩
end
end Go.Proofs.Ytlimbcpghfddkaa
