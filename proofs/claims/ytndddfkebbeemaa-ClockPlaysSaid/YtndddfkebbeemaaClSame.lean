/-
  clock's laws: same: all that is told is the document's.
-/
import Derived.Test.YtndddfkebbeemaaClBoth
import Derived.Test.YtndddfkebbeemaaLexIn
import Derived.Test.YtndddfkebbeemaaRangeP
import Derived.Test.YtndddfkebbeemaaClGrow
import Derived.Deep.DeepCutAuto
import Derived.Deep.CutBlock
namespace Go.Proofs.Ytndddfkebbeemaa
open Go.RowKit Go.Shelf Go
attribute [local go_sem] Oper.semAt_some

/-- What the range's body turns: a count, and what is returned. -/
structure SmI (W0 : World) (nb rc n : Nat) (b : Bool) (W : World) : Prop where
  rn : RowAt W nb 1 (fun _ => .int .i64 (n : Int))
  rr : RowAt W rc 1 (fun _ => .bool b)
  only : Only (fun k => k = nb ∨ k = rc) W0 W
theorem sm_own {β : Type} {W0 : World} {nb rc : Nat} {n : β → Nat} {b : β → Bool} (h1 : nb < W0.heap.size) (h2 : rc < W0.heap.size) : OwnFrom W0.heap.size (fun (s : β) W => SmI W0 nb rc (n s) (b s) W) := fun s X Y row i hg hr => by
  have hne : ∀ k, k < W0.heap.size → some k ≠ row := fun k hk e => by have := (hr k e.symm).1; omega
  exact ⟨i.rn.block (hg.block nb i.rn.lt (hne _ h1)), i.rr.block (hg.block rc i.rr.lt (hne _ h2)),
    ⟨hg.os.trans i.only.os, hg.tape.trans i.only.tape, hg.output.trans i.only.output, Nat.le_trans i.only.size hg.size, fun k hk hs => (hg.block k (Nat.lt_of_lt_of_le hk i.only.size) (hne k hk)).trans (i.only.block k hk hs)⟩⟩
section
variable {IsC : Thg → Nat → List Fr → Prop} (ok : ClOk IsC) {w0 w : World} {d r : Nat} {L : List Fr} {P : Nat → Prop}
include ok
set_option maxRecDepth 100000 in
set_option maxHeartbeats 8000000 in
theorem same_in (q : Nat) (hm : 8 ≤ q) (h : KPT (PD IsC d L r L) w0 P w) (x stop : Int) (hx : InZ x) :
    CallsIn Fence.wide q Try.prog 20 #[.pointer (some ⟨d, 0, none⟩), .pointer (some ⟨r, 0, none⟩), .int .i64 x, .int .i64 stop] w fun e w' => e = .returned (.bool true) ∧ Below w.heap.size w w' := by
  have h1 : 1 ≤ q := by omega
  have HH := Lib.hid h
  have HI := Lib.hid (h.one_pd.inv_cl ok)
  clear h
  refine callsIn_of_wp_marks Try.func20 rfl trivial ?_ rfl
  simp only [Try.ntmps20, List.size_toArray, List.length_cons, List.length_nil, Nat.reduceAdd, Nat.reduceSub, Array.replicate_succ, Array.replicate_zero, List.push_toArray, List.append_toArray, List.nil_append, List.cons_append]
  refine wpIn_wide.2 ?_
  obtain ⟨wa, hwa⟩ : ∃ wa, ((w.alloc (.cells #[.pointer (some ⟨r, 0, none⟩)] 26)).alloc (.cells #[.int .i64 stop] 3)).alloc (.cells #[.bool false] 4) = wa := ⟨_, rfl⟩
  have HB0 := Lib.hid (show Below w.heap.size w wa from by rw [← hwa]; exact (((Below.refl _ w).alloc (Nat.le_refl _) _).alloc (by simp) _).alloc (by simp; omega) _)
  have HSA := Lib.hid (show wa.heap.size = w.heap.size + 3 from by rw [← hwa]; simp)
  have HRP := Lib.hid (show RowAt wa w.heap.size 1 (fun _ => .pointer (some ⟨r, 0, none⟩)) from by
    rw [← hwa]
    exact ((RowAt.new w #[.pointer (some ⟨r, 0, none⟩)] _ 1 _ (fun i hi => by
      obtain rfl : i = 0 := by omega
      rfl)).alloc _).alloc _)
  have HRS := Lib.hid (show RowAt wa (w.heap.size + 1) 1 (fun _ => .int .i64 stop) from by
    rw [← hwa]
    have h := bx_new (w.alloc (.cells #[.pointer (some ⟨r, 0, none⟩)] 26)) stop 3
    rw [World.size_alloc] at h
    exact h.alloc _)
  have HRC := Lib.hid (show RowAt wa (w.heap.size + 2) 1 (fun _ => .bool false) from by
    rw [← hwa]
    have h := RowAt.new ((w.alloc (.cells #[.pointer (some ⟨r, 0, none⟩)] 26)).alloc (.cells #[.int .i64 stop] 3)) #[.bool false] 4 1 (fun _ => .bool false) (fun i hi => by
      obtain rfl : i = 0 := by omega
      rfl)
    rw [World.size_alloc, World.size_alloc] at h
    exact h)
  have HHA := Lib.hid (HH.out.later HB0.out)
  go_wp2_with (fail)
  clear hwa
  obtain ⟨X, HX, HXA, HXL⟩ : ∃ X, Hid (IsC X d L) ∧ Hid (X.At w) ∧ Hid (∀ k, X.has k → k < w.heap.size) := by
    obtain ⟨_, ⟨X, v0, rfl, hIs⟩, hA, _⟩ := HH.out
    exact ⟨X, hIs, hA.1, X.lt w hA.1⟩
  obtain ⟨v, hvw, _⟩ := HH.out.ref_pd
  have HVL := Lib.hid (fun k (hk : k = r ∨ v.ownBlock = some k) => hvw.lt hk)
  have hv := hvw.later HB0.out
  have HXT := Lib.hid (fun W (hW : Below wa.heap.size wa W) => X.later (X.later HXA.out HB0.out) hW)
  clear hvw
  obtain ⟨ra, rcap, hvs, _⟩ := owns_slice hv.ow
  have HV := Lib.hid hv
  have LP := Lib.hid (show ∀ W, Kept wa.heap.size wa W → (loadVar 26 ⟨w.heap.size, 0, none⟩).run Try.prog W = .ok (.pointer (some ⟨r, 0, none⟩)) W from fun W hW => run_loadVar_cell (fun _ => by kernel_rfl) ((HRP.out.later hW.below).cell 0 (by decide)))
  have LL := Lib.hid (show ∀ W, Kept wa.heap.size wa W → (loadVar 27 ⟨r, 0, none⟩).run Try.prog W = .ok (.slice ra L.length rcap) W from fun W hW => run_loadVar_cell (fun _ => by kernel_rfl) (by rw [(HV.out.later hW.below).c0, hvs]))
  have C1 := Lib.hid (fun W (hW : Kept wa.heap.size wa W) => len_cl ok (HHA.out.later hW.below).one_pd)
  have C2 := Lib.hid (fun W (hW : Kept wa.heap.size wa W) => active_cl ok (HHA.out.later hW.below).one_pd)
  have C3 := Lib.hid (fun W (hW : Kept wa.heap.size wa W) => ractive_any (HV.out.later hW.below).ref HI.out.len)
  have C4 := Lib.hid (fun W (hW : Kept wa.heap.size wa W) => has_cl ok (HHA.out.later hW.below).one_pd x hx _ rfl)
  have C5 := Lib.hid (fun W (hW : Kept wa.heap.size wa W) => rfind_any (HV.out.later hW.below).ref HI.out.len x)
  have hfg := fnd_ge (L := L) (x := x)
  clear hv
  generalize hasL L x = hb at *
  generalize fndN x 0 L = fi at *
  generalize actL L = am at *
  generalize hpb : w.heap.size = pb at *
  refine wp_region_lex (Kept wa.heap.size wa) [(0, false), (2, false), (3, false), (4, false), (5, false), (6, false), (1, true), (7, false), (8, false), (9, false), (11, false), (10, true), (12, true), (13, false), (14, false), (15, false), (16, false), (17, false), (19, false), (20, false), (18, true), (21, true), (22, false), (23, false), (24, false)] (by kernel_rfl) (by kernel_rfl) rfl (by kernel_rfl) (Below.refl _ wa).drew ?_
  intro W0 hK0
  have HK0 := Lib.hid hK0
  clear hK0
  refine lexH_yieldE rfl rfl ?_
  apply Exists.intro
  refine ⟨fun W hW => ?_, ?_⟩
  focus (go_simp; exact rfl)
  simp only [List.getElem_toArray, List.getElem_cons_zero, Act.put, List.setIfInBounds_toArray, List.set_cons_zero, List.set_cons_succ]
  refine lexH_load rfl rfl _ _ rfl rfl LP.out ?_
  simp only [List.getElem_toArray, List.getElem_cons_succ, List.getElem_cons_zero, Act.put, List.setIfInBounds_toArray, List.set_cons_zero, List.set_cons_succ]
  refine lexH_yieldE rfl rfl ?_
  apply Exists.intro
  refine ⟨fun W hW => ?_, ?_⟩
  focus (go_simp; exact rfl)
  simp only [List.getElem_toArray, List.getElem_cons_succ, List.getElem_cons_zero, Act.put, List.setIfInBounds_toArray, List.set_cons_zero, List.set_cons_succ]
  refine lexH_yieldE rfl rfl ?_
  apply Exists.intro
  refine ⟨fun W hW => ?_, ?_⟩
  focus (go_simp; exact rfl)
  simp only [List.getElem_toArray, List.getElem_cons_succ, List.getElem_cons_zero, Act.put, List.setIfInBounds_toArray, List.set_cons_zero, List.set_cons_succ]
  refine lexH_load rfl rfl _ _ rfl rfl LL.out ?_
  simp only [List.getElem_toArray, List.getElem_cons_succ, List.getElem_cons_zero, Act.put, List.setIfInBounds_toArray, List.set_cons_zero, List.set_cons_succ]
  refine lexH_yieldE rfl rfl ?_
  apply Exists.intro
  refine ⟨fun W hW => ?_, ?_⟩
  focus (go_simp; exact rfl)
  simp only [List.getElem_toArray, List.getElem_cons_succ, List.getElem_cons_zero, Act.put, List.setIfInBounds_toArray, List.set_cons_zero, List.set_cons_succ]
  refine lexH_call 21 #[.pointer (some ⟨d, 0, none⟩)] rfl rfl ?_ ?_
  focus (go_simp; done)
  refine (C1.out _ HK0.out).mono ?_
  rintro e W1 ⟨rfl, hb1⟩
  have HK1 := Lib.hid (HK0.out.call (Nat.le_refl _) hb1)
  refine ⟨_, rfl, HK1.out, ?_⟩
  clear hb1 HK0
  simp only [List.getElem_toArray, List.getElem_cons_succ, List.getElem_cons_zero, Act.put, List.setIfInBounds_toArray, List.set_cons_zero, List.set_cons_succ]
  refine lexH_yieldE rfl rfl ?_
  apply Exists.intro
  refine ⟨fun W hW => ?_, ?_⟩
  focus (go_simp; exact rfl)
  simp only [List.getElem_toArray, List.getElem_cons_succ, List.getElem_cons_zero, Act.put, List.setIfInBounds_toArray, List.set_cons_zero, List.set_cons_succ]
  refine lexH_yieldE rfl rfl ?_
  apply Exists.intro
  refine ⟨fun W hW => ?_, ?_⟩
  focus (go_simp; exact rfl)
  simp only [List.getElem_toArray, List.getElem_cons_succ, List.getElem_cons_zero, Act.put, List.setIfInBounds_toArray, List.set_cons_zero, List.set_cons_succ]
  refine lexH_yieldE rfl rfl ?_
  apply Exists.intro
  refine ⟨fun W hW => ?_, ?_⟩
  focus (go_simp; exact rfl)
  simp only [List.getElem_toArray, List.getElem_cons_succ, List.getElem_cons_zero, Act.put, List.setIfInBounds_toArray, List.set_cons_zero, List.set_cons_succ]
  refine lexH_load rfl rfl _ _ rfl rfl LP.out ?_
  simp only [List.getElem_toArray, List.getElem_cons_succ, List.getElem_cons_zero, Act.put, List.setIfInBounds_toArray, List.set_cons_zero, List.set_cons_succ]
  refine lexH_call 24 #[.pointer (some ⟨d, 0, none⟩)] rfl rfl ?_ ?_
  focus (go_simp; done)
  refine (C2.out _ HK1.out).mono ?_
  rintro e W2 ⟨rfl, hb1⟩
  have HK2 := Lib.hid (HK1.out.call (Nat.le_refl _) hb1)
  refine ⟨_, rfl, HK2.out, ?_⟩
  clear hb1 HK1
  simp only [List.getElem_toArray, List.getElem_cons_succ, List.getElem_cons_zero, Act.put, List.setIfInBounds_toArray, List.set_cons_zero, List.set_cons_succ]
  refine lexH_call 33 #[.pointer (some ⟨r, 0, none⟩)] rfl rfl ?_ ?_
  focus (go_simp; done)
  refine (C3.out _ HK2.out).mono ?_
  rintro e W3 ⟨rfl, rfl⟩
  refine ⟨_, rfl, HK2.out, ?_⟩
  simp only [List.getElem_toArray, List.getElem_cons_succ, List.getElem_cons_zero, Act.put, List.setIfInBounds_toArray, List.set_cons_zero, List.set_cons_succ]
  refine lexH_yieldE rfl rfl ?_
  apply Exists.intro
  refine ⟨fun W hW => ?_, ?_⟩
  focus (go_simp; exact rfl)
  simp only [List.getElem_toArray, List.getElem_cons_succ, List.getElem_cons_zero, Act.put, List.setIfInBounds_toArray, List.set_cons_zero, List.set_cons_succ]
  refine lexH_yieldE rfl rfl ?_
  apply Exists.intro
  refine ⟨fun W hW => ?_, ?_⟩
  focus (go_simp; exact rfl)
  simp only [List.getElem_toArray, List.getElem_cons_succ, List.getElem_cons_zero, Act.put, List.setIfInBounds_toArray, List.set_cons_zero, List.set_cons_succ]
  refine lexH_yieldE rfl rfl ?_
  apply Exists.intro
  refine ⟨fun W hW => ?_, ?_⟩
  focus (go_simp; exact rfl)
  simp only [List.getElem_toArray, List.getElem_cons_succ, List.getElem_cons_zero, Act.put, List.setIfInBounds_toArray, List.set_cons_zero, List.set_cons_succ]
  refine lexH_yieldE rfl rfl ?_
  apply Exists.intro
  refine ⟨fun W hW => ?_, ?_⟩
  focus (go_simp; exact rfl)
  simp only [List.getElem_toArray, List.getElem_cons_succ, List.getElem_cons_zero, Act.put, List.setIfInBounds_toArray, List.set_cons_zero, List.set_cons_succ]
  refine lexH_yieldE rfl rfl ?_
  apply Exists.intro
  refine ⟨fun W hW => ?_, ?_⟩
  focus (go_simp; exact rfl)
  simp only [List.getElem_toArray, List.getElem_cons_succ, List.getElem_cons_zero, Act.put, List.setIfInBounds_toArray, List.set_cons_zero, List.set_cons_succ]
  refine lexH_load rfl rfl _ _ rfl rfl LP.out ?_
  simp only [List.getElem_toArray, List.getElem_cons_succ, List.getElem_cons_zero, Act.put, List.setIfInBounds_toArray, List.set_cons_zero, List.set_cons_succ]
  refine lexH_yieldE rfl rfl ?_
  apply Exists.intro
  refine ⟨fun W hW => ?_, ?_⟩
  focus (go_simp; exact rfl)
  simp only [List.getElem_toArray, List.getElem_cons_succ, List.getElem_cons_zero, Act.put, List.setIfInBounds_toArray, List.set_cons_zero, List.set_cons_succ]
  refine lexH_call 22 #[.pointer (some ⟨d, 0, none⟩), .int .i64 x] rfl rfl ?_ ?_
  focus (go_simp; done)
  refine (C4.out _ HK2.out).mono ?_
  rintro e W4 ⟨rfl, hb1⟩
  have HK4 := Lib.hid (HK2.out.call (Nat.le_refl _) hb1)
  refine ⟨_, rfl, HK4.out, ?_⟩
  clear hb1 HK2
  simp only [List.getElem_toArray, List.getElem_cons_succ, List.getElem_cons_zero, Act.put, List.setIfInBounds_toArray, List.set_cons_zero, List.set_cons_succ]
  refine lexH_call 26 #[.pointer (some ⟨r, 0, none⟩), .int .i64 x] rfl rfl ?_ ?_
  focus (go_simp; done)
  refine (C5.out _ HK4.out).mono ?_
  rintro e W5 ⟨rfl, rfl⟩
  refine ⟨_, rfl, HK4.out, ?_⟩
  simp only [List.getElem_toArray, List.getElem_cons_succ, List.getElem_cons_zero, Act.put, List.setIfInBounds_toArray, List.set_cons_zero, List.set_cons_succ]
  refine lexH_yield rfl rfl (v := .bool hb) (fun W hW => by go_simp) ?_
  simp only [List.getElem_toArray, List.getElem_cons_succ, List.getElem_cons_zero, Act.put, List.setIfInBounds_toArray, List.set_cons_zero, List.set_cons_succ]
  refine lexH_yieldE rfl rfl ?_
  apply Exists.intro
  refine ⟨fun W hW => ?_, ?_⟩
  focus (go_simp; exact rfl)
  simp only [List.getElem_toArray, List.getElem_cons_succ, List.getElem_cons_zero, Act.put, List.setIfInBounds_toArray, List.set_cons_zero, List.set_cons_succ]
  refine lexH_yieldE rfl rfl ?_
  apply Exists.intro
  refine ⟨fun W hW => ?_, ?_⟩
  focus (go_simp; exact rfl)
  simp only [List.getElem_toArray, List.getElem_cons_succ, List.getElem_cons_zero, Act.put, List.setIfInBounds_toArray, List.set_cons_zero, List.set_cons_succ]
  refine lexH_nil ?_
  clear C1 C2 C3 C4 C5 hfg LP LL HH HHA
  go_wp2_with (fail)
  have hb45 := (Below.refl W4.heap.size W4).alloc (Nat.le_refl _) (.cells #[.int .i64 0] 3)
  have HBA5 := Lib.hid (show Below wa.heap.size wa (W4.alloc (.cells #[.int .i64 0] 3)) from HK4.out.below.trans (hb45.mono HK4.out.below.size))
  have HNB5 := Lib.hid (bx_new W4 0 3)
  have HNS := Lib.hid (show pb + 3 ≤ W4.heap.size from by have h2 := HSA.out; have h3 := HK4.out.below.size; omega)
  clear hb45
  generalize W4.alloc (.cells #[.int .i64 0] 3) = W5 at *
  generalize W4.heap.size = nb at *
  refine (ok.all HX.out (HXT.out _ HBA5.out)).mono ?_
  rintro e W6 ⟨g0, lb0, own0, rfl, hb6, _, hnil0, _, _⟩
  have HBA6 := Lib.hid (HBA5.out.trans (hb6.mono HBA5.out.size))
  have HNB6 := Lib.hid (HNB5.out.later hb6)
  clear hb6 HBA5 HNB5
  go_wp2_with (fail)
  clear hnil0
  refine (ok.all HX.out (HXT.out _ HBA6.out)).mono ?_
  rintro e W7 ⟨g1, lb1, own1, rfl, hb7, hent1, _, hown1, hT1⟩
  have HBA7 := Lib.hid (HBA6.out.trans (hb7.mono HBA6.out.size))
  have HNB7 := Lib.hid (HNB6.out.later hb7)
  have HENT := Lib.hid hent1
  have HT1 := Lib.hid hT1
  have HOWN := Lib.hid (show ∀ k, own1 k → k < W7.heap.size ∧ ¬ (k = nb ∨ k = pb + 2) from fun k hk => by
    obtain ⟨h2, h3⟩ := hown1 k hk
    refine ⟨h3, fun e => ?_⟩
    have a1 := HNB6.out.lt
    have a2 := HNS.out
    rcases h2 with h2 | h2
    · have := HXL.out k h2
      omega
    · have a3 := HSA.out
      have a4 := HBA6.out.size
      omega)
  clear hb7 HBA6 HNB6 hent1 hT1 hown1
  go_wp2_with (fail)
  have hn4 := HNB7.out.lt
  have hr4 : pb + 2 < W7.heap.size := by have := HSA.out; have := HBA7.out.size; omega
  have hsq := HT1.out.solo (q - 1) (by omega) (fun k => k = nb ∨ k = pb + 2) (fun k hk => by rcases hk with rfl | rfl <;> assumption) HOWN.out
  have HNX := Lib.hid (show SmI W7 nb (pb + 2) (([] : List (Fin (namesL L).length)).length) false W7 from ⟨HNB7.out, HRC.out.later HBA7.out, Only.refl _ _⟩)
  have HV7 := Lib.hid (HV.out.later HBA7.out)
  have HP7 := Lib.hid ((HRP.out.later HBA7.out).cell 0 (by decide))
  have HS7 := Lib.hid ((HRS.out.later HBA7.out).cell 0 (by decide))
  have HB7 := Lib.hid (HB0.out.trans (HBA7.out.mono (by have := HSA.out; omega)))
  clear HOWN HNB7 HRP HRS HRC HV
  refine (wpIn_wide (n := q)).1 ?_
  refine range_o1 rfl h1 (gf := g1) (lb := lb1) (by simp [go_sem]) trivial HENT.out hsq (fun x => .int .i64 (((namesL L)[x.val]'x.isLt) : Nat)) (fun x => rfl) KpZ.trans (fun W l o o' _ _ _ => KpZ.put W l o') (fun pre W => SmI W7 nb (pb + 2) pre.length false W)
    (fun c pre W => c = Code.ret ∧ SmI W7 nb (pb + 2) pre.length true W) (sm_own (n := fun (pre : List (Fin (namesL L).length)) => pre.length) (b := fun _ => false) hn4 hr4)
    (fun c s X Y row h hg hr => ⟨h.1, sm_own (n := fun (pre : List (Fin (namesL L).length)) => pre.length) (b := fun _ => true) hn4 hr4 s X Y row h.2 hg hr⟩) HNX.out 10 ?assign ?body ?done ?stop
  case assign =>
    intro l' pre y V K hl' hI hK
    have HK := Lib.hid hK
    have HI2 := Lib.hid hI
    clear hK hI hsq
    gi_wp2_with (fail)
    have h9 := HK.out V (KeepsFrom.refl _ _) HI2.out (KpZ.of_below (Below.refl _ _))
    simpa using h9
  case body =>
    rintro l' pre y U0 V hl' hI hk0 hlen2
    obtain ⟨hxl, _⟩ := next_of_some hlen2
    have HK0 := Lib.hid hk0
    have hlN : (namesL L).length = L.length := namesL_len L
    have hpl : pre.length < L.length := by rw [← hlN, ← hxl]; exact y.isLt
    obtain ⟨⟨n, a, t⟩, hy⟩ : ∃ z, L[pre.length]'hpl = z := ⟨_, rfl⟩
    have hq2 : (namesL L)[y.val]'y.isLt = n := by
      have h3 : (namesL L)[pre.length]'(by omega) = n := by
        have h4 : (namesL L)[pre.length]'(by omega) = (L[pre.length]'hpl).1 := by simp [namesL]
        rw [h4, hy]
      rw [← h3]
      exact getElem_congr_idx hxl
    have hOV : RfV V r v L := HV7.out.only hI.only (fun k hk h => by have := HVL.out k hk; have := HNS.out; omega)
    obtain ⟨g, c, hvv, _, _, _, hcell, _⟩ := owns_where hOV.ow (by omega)
    have r0 := hcell (pre.length * 3) _ (by omega) (recV_at encF_len L pre.length _ (List.getElem?_eq_getElem hpl) 0 (.int .i64 (n : Int)) (by rw [hy]; rfl))
    have c0 := hOV.c0
    rw [hvv] at c0
    simp only [hq2]
    have hne : nb ≠ pb + 2 := by have := HNS.out; omega
    have kn : V.cell? ⟨nb, 0, none⟩ = some (.int .i64 (pre.length : Nat)) := hI.rn.cell 0 (by decide)
    have kr : V.cell? ⟨pb + 2, 0, none⟩ = some (.bool false) := hI.rr.cell 0 (by decide)
    have kp : V.cell? ⟨pb, 0, none⟩ = some (.pointer (some ⟨r, 0, none⟩)) := hI.only.cell (by have := HNS.out; omega) HP7.out
    have ks : V.cell? ⟨pb + 1, 0, none⟩ = some (.int .i64 stop) := hI.only.cell (by have := HNS.out; omega) HS7.out
    have Ln := Lib.hid (show ∀ U, U = V.drew → (loadVar 3 ⟨nb, 0, none⟩).run Try.prog U = .ok (.int .i64 (pre.length : Nat)) U from fun U hU => run_loadVar_cell (fun _ => by kernel_rfl) (by rw [hU]; exact kn))
    have Lp := Lib.hid (show ∀ U, U = V.drew → (loadVar 26 ⟨pb, 0, none⟩).run Try.prog U = .ok (.pointer (some ⟨r, 0, none⟩)) U from fun U hU => run_loadVar_cell (fun _ => by kernel_rfl) (by rw [hU]; exact kp))
    have Ll := Lib.hid (show ∀ U, U = V.drew → (loadVar 27 ⟨r, 0, none⟩).run Try.prog U = .ok (.slice (some ⟨g, 0, none⟩) L.length c) U from fun U hU => run_loadVar_cell (fun _ => by kernel_rfl) (by rw [hU]; exact c0))
    have Lf := Lib.hid (show ∀ U, U = V.drew → (loadVar 3 ⟨g, pre.length * 3, none⟩).run Try.prog U = .ok (.int .i64 (n : Int)) U from fun U hU => run_loadVar_cell (fun _ => by kernel_rfl) (by rw [hU]; exact r0))
    have HS := Lib.hid (fun (b : Bool) (W : World) (hW : W = ((V.drew.setCell ⟨nb, 0, none⟩ (.int .i64 ((pre.length : Int) + 1))))) => show SmI W7 nb (pb + 2) (pre ++ [y]).length false W from by
      subst hW
      refine ⟨((hI.rn.later (Below.refl _ _).drew).setCell 0 (.int .i64 ((pre.length : Int) + 1))).ext (fun i hi => by
        obtain rfl : i = 0 := by omega
        simp [updV]), (hI.rr.later (Below.refl _ _).drew).only (Only.setCell (S := fun k => k = nb) _ ⟨nb, 0, none⟩ rfl _) (fun e => hne e.symm), (hI.only.trans (Only.of_below (Below.refl _ _).drew)).trans ((Only.setCell (S := fun k => k = nb) _ ⟨nb, 0, none⟩ rfl _).mono (fun k hk => .inl hk))⟩)
    have hd0 : decide ((L.length : Int) ≤ (pre.length : Int)) = false := decide_eq_false (by omega)
    have hd1 : decide (L.length ≤ pre.length) = false := decide_eq_false (by omega)
    have hltI : (pre.length : Int) < (L.length : Int) := by omega
    have kn2 : V.drew.cell? ⟨nb, 0, none⟩ = some (.int .i64 (pre.length : Nat)) := kn
    have kf2 : V.drew.frozen? ⟨nb, 0, none⟩ = false := hI.rn.frozen 0
    have ks2 : V.drew.cell? ⟨pb + 1, 0, none⟩ = some (.int .i64 stop) := ks
    have kr2 : V.drew.cell? ⟨pb + 2, 0, none⟩ = some (.bool false) := kr
    have kz2 : V.drew.frozen? ⟨pb + 2, 0, none⟩ = false := hI.rr.frozen 0
    have HI2 := Lib.hid hI
    have hll := HI.out.len
    clear hI hk0 hxl hlen2 hy hq2 hOV hcell r0 c0 kn kr kp ks hsq
    generalize hjl : pre.length = j at *
    gi_wp2_with (fail)
    refine wpIn_region_lex1 (fun U => U = V.drew) [(0, false), (1, false), (2, false), (3, false), (4, false), (5, false), (6, false), (7, false), (8, false), (9, false), (10, false), (11, false), (12, false), (13, false), (14, false), (15, false), (16, false), (17, false), (18, false)]
      (by kernel_rfl) (by kernel_rfl) (by kernel_rfl) rfl (by kernel_rfl) rfl ?_
    intro V0 hV0 hK0
    clear hK0
    subst hV0
    refine lexH_load rfl rfl _ _ rfl rfl Ln.out ?_
    simp only [List.getElem_toArray, List.getElem_cons_zero, Act.put, List.setIfInBounds_toArray, List.set_cons_zero, List.set_cons_succ]
    refine lexH_load rfl rfl _ _ rfl rfl Lp.out ?_
    simp only [List.getElem_toArray, List.getElem_cons_succ, List.getElem_cons_zero, Act.put, List.setIfInBounds_toArray, List.set_cons_zero, List.set_cons_succ]
    refine lexH_yieldE rfl rfl ?_
    apply Exists.intro
    refine ⟨fun W hW => ?_, ?_⟩
    focus (go_simp; exact rfl)
    simp only [List.getElem_toArray, List.getElem_cons_succ, List.getElem_cons_zero, Act.put, List.setIfInBounds_toArray, List.set_cons_zero, List.set_cons_succ]
    refine lexH_yieldE rfl rfl ?_
    apply Exists.intro
    refine ⟨fun W hW => ?_, ?_⟩
    focus (go_simp; exact rfl)
    simp only [List.getElem_toArray, List.getElem_cons_succ, List.getElem_cons_zero, Act.put, List.setIfInBounds_toArray, List.set_cons_zero, List.set_cons_succ]
    refine lexH_load rfl rfl _ _ rfl rfl Ll.out ?_
    simp only [List.getElem_toArray, List.getElem_cons_succ, List.getElem_cons_zero, Act.put, List.setIfInBounds_toArray, List.set_cons_zero, List.set_cons_succ]
    refine lexH_yieldE rfl rfl ?_
    apply Exists.intro
    refine ⟨fun W hW => ?_, ?_⟩
    focus (go_simp; exact rfl)
    simp only [List.getElem_toArray, List.getElem_cons_succ, List.getElem_cons_zero, Act.put, List.setIfInBounds_toArray, List.set_cons_zero, List.set_cons_succ]
    refine lexH_yieldE rfl rfl ?_
    apply Exists.intro
    refine ⟨fun W hW => ?_, ?_⟩
    focus (go_simp; exact rfl)
    simp only [List.getElem_toArray, List.getElem_cons_succ, List.getElem_cons_zero, Act.put, List.setIfInBounds_toArray, List.set_cons_zero, List.set_cons_succ]
    refine lexH_yieldE rfl rfl ?_
    apply Exists.intro
    refine ⟨fun W hW => ?_, ?_⟩
    focus (go_simp; exact rfl)
    simp only [List.getElem_toArray, List.getElem_cons_succ, List.getElem_cons_zero, Act.put, List.setIfInBounds_toArray, List.set_cons_zero, List.set_cons_succ]
    refine lexH_load rfl rfl _ _ rfl rfl Lp.out ?_
    simp only [List.getElem_toArray, List.getElem_cons_succ, List.getElem_cons_zero, Act.put, List.setIfInBounds_toArray, List.set_cons_zero, List.set_cons_succ]
    refine lexH_yieldE rfl rfl ?_
    apply Exists.intro
    refine ⟨fun W hW => ?_, ?_⟩
    focus (go_simp; exact rfl)
    simp only [List.getElem_toArray, List.getElem_cons_succ, List.getElem_cons_zero, Act.put, List.setIfInBounds_toArray, List.set_cons_zero, List.set_cons_succ]
    refine lexH_yieldE rfl rfl ?_
    apply Exists.intro
    refine ⟨fun W hW => ?_, ?_⟩
    focus (go_simp; exact rfl)
    simp only [List.getElem_toArray, List.getElem_cons_succ, List.getElem_cons_zero, Act.put, List.setIfInBounds_toArray, List.set_cons_zero, List.set_cons_succ]
    refine lexH_load rfl rfl _ _ rfl rfl Ll.out ?_
    simp only [List.getElem_toArray, List.getElem_cons_succ, List.getElem_cons_zero, Act.put, List.setIfInBounds_toArray, List.set_cons_zero, List.set_cons_succ]
    refine lexH_load rfl rfl _ _ rfl rfl Ln.out ?_
    simp only [List.getElem_toArray, List.getElem_cons_succ, List.getElem_cons_zero, Act.put, List.setIfInBounds_toArray, List.set_cons_zero, List.set_cons_succ]
    refine lexH_yieldE rfl rfl ?_
    apply Exists.intro
    refine ⟨fun W hW => ?_, ?_⟩
    focus (go_simp; exact rfl)
    simp only [List.getElem_toArray, List.getElem_cons_succ, List.getElem_cons_zero, Act.put, List.setIfInBounds_toArray, List.set_cons_zero, List.set_cons_succ]
    refine lexH_yieldE rfl rfl ?_
    apply Exists.intro
    refine ⟨fun W hW => ?_, ?_⟩
    focus (go_simp; exact rfl)
    simp only [List.getElem_toArray, List.getElem_cons_succ, List.getElem_cons_zero, Act.put, List.setIfInBounds_toArray, List.set_cons_zero, List.set_cons_succ]
    refine lexH_load rfl rfl _ _ rfl rfl Lf.out ?_
    simp only [List.getElem_toArray, List.getElem_cons_succ, List.getElem_cons_zero, Act.put, List.setIfInBounds_toArray, List.set_cons_zero, List.set_cons_succ]
    refine lexH_yieldE rfl rfl ?_
    apply Exists.intro
    refine ⟨fun W hW => ?_, ?_⟩
    focus (go_simp; exact rfl)
    simp only [List.getElem_toArray, List.getElem_cons_succ, List.getElem_cons_zero, Act.put, List.setIfInBounds_toArray, List.set_cons_zero, List.set_cons_succ]
    refine lexH_yieldE rfl rfl ?_
    apply Exists.intro
    refine ⟨fun W hW => ?_, ?_⟩
    focus (go_simp; exact rfl)
    simp only [List.getElem_toArray, List.getElem_cons_succ, List.getElem_cons_zero, Act.put, List.setIfInBounds_toArray, List.set_cons_zero, List.set_cons_succ]
    refine lexH_yieldE rfl rfl ?_
    apply Exists.intro
    refine ⟨fun W hW => ?_, ?_⟩
    focus (go_simp; exact rfl)
    simp only [List.getElem_toArray, List.getElem_cons_succ, List.getElem_cons_zero, Act.put, List.setIfInBounds_toArray, List.set_cons_zero, List.set_cons_succ]
    refine lexI_nil ?_
    clear Ln Lp Ll Lf hd0 hd1 hltI
    have HON := Lib.hid (show Only (fun k => k = nb ∨ k = pb + 2) V (V.drew.setCell ⟨nb, 0, none⟩ (.int .i64 ((j : Int) + 1))) from (Only.of_below (Below.refl V.heap.size V).drew).trans ((Only.setCell (S := fun k => k = nb) V.drew ⟨nb, 0, none⟩ rfl _).mono (fun k hk => .inl hk)))
    generalize V.drew = V1 at *
    have hne1 : ¬ pb + 1 = nb := by have := HNS.out; omega
    have hne2 : ¬ pb + 2 = nb := by have := HNS.out; omega
    by_cases hst : (j : Int) + 1 = stop
    · subst hst
      gi_wp2_with (fail)
      have hO2 : Only (fun k => k = nb ∨ k = pb + 2) V ((V1.setCell ⟨nb, 0, none⟩ (.int .i64 ((j : Int) + 1))).setCell ⟨pb + 2, 0, none⟩ (.bool true)) := HON.out.trans ((Only.setCell (S := fun k => k = pb + 2) _ ⟨pb + 2, 0, none⟩ rfl _).mono (fun k hk => .inr hk))
      refine ⟨⟨hO2.size, fun i o hB hi hc => (hO2.block i (Array.getElem?_eq_some_iff.1 hi).1 (by omega)).trans hi⟩, HK0.out.trans (KpZ.of_only hO2), rfl, ?_⟩
      have h5 := HS.out true _ rfl
      exact ⟨h5.rn.only (Only.setCell (S := fun k => k = pb + 2) _ ⟨pb + 2, 0, none⟩ rfl _) hne, (h5.rr.setCell 0 (.bool true)).ext (fun i hi => by
        obtain rfl : i = 0 := by omega
        simp [updV]), h5.only.trans ((Only.setCell (S := fun k => k = pb + 2) _ ⟨pb + 2, 0, none⟩ rfl _).mono (fun k hk => .inr hk))⟩
    · gi_wp2_with (fail)
      refine ⟨⟨HON.out.size, fun i o hB hi hc => (HON.out.block i (Array.getElem?_eq_some_iff.1 hi).1 (by have := HNS.out; omega)).trans hi⟩, HK0.out.trans (KpZ.of_only HON.out), ?_⟩
      exact HS.out true _ rfl
  case done =>
    rintro D xs V hD hxs hI hDk
    have hxl : xs.length = L.length := by
      have := congrArg List.length hxs
      rw [List.length_map, List.length_range] at this
      exact this.trans (namesL_len L)
    have hOV : RfV V r v L := HV7.out.only hI.only (fun k hk h => by have := HVL.out k hk; have := HNS.out; omega)
    obtain ⟨sa, sc, hvv, _⟩ := owns_slice hOV.ow
    have c0 := hOV.c0
    rw [hvv] at c0
    have kn : V.cell? ⟨nb, 0, none⟩ = some (.int .i64 (L.length : Nat)) := by rw [← hxl]; exact hI.rn.cell 0 (by decide)
    have kp : V.cell? ⟨pb, 0, none⟩ = some (.pointer (some ⟨r, 0, none⟩)) := hI.only.cell (by have := HNS.out; omega) HP7.out
    have Ln := Lib.hid (show ∀ U, U = V.drew → (loadVar 3 ⟨nb, 0, none⟩).run Try.prog U = .ok (.int .i64 (L.length : Nat)) U from fun U hU => run_loadVar_cell (fun _ => by kernel_rfl) (by rw [hU]; exact kn))
    have Lp := Lib.hid (show ∀ U, U = V.drew → (loadVar 26 ⟨pb, 0, none⟩).run Try.prog U = .ok (.pointer (some ⟨r, 0, none⟩)) U from fun U hU => run_loadVar_cell (fun _ => by kernel_rfl) (by rw [hU]; exact kp))
    have Ll := Lib.hid (show ∀ U, U = V.drew → (loadVar 27 ⟨r, 0, none⟩).run Try.prog U = .ok (.slice sa L.length sc) U from fun U hU => run_loadVar_cell (fun _ => by kernel_rfl) (by rw [hU]; exact c0))
    have HIV := Lib.hid hI
    have kr2 : V.drew.cell? ⟨pb + 2, 0, none⟩ = some (.bool false) := hI.rr.cell 0 (by decide)
    have kz2 : V.drew.frozen? ⟨pb + 2, 0, none⟩ = false := hI.rr.frozen 0
    have HDK := Lib.hid hDk
    clear hsq hI hxs hxl hOV hvv c0 kn kp hDk
    go_wp2_with (fail)
    refine wp_region_lexF (fun U => U = V.drew) [(0, false), (1, false), (2, false), (3, false), (4, false), (5, false), (6, false)] 7
      (by kernel_rfl) (by kernel_rfl) rfl (by kernel_rfl) rfl ?_
    intro V0 hV0 hK0
    clear hK0
    subst hV0
    refine lexH_load rfl rfl _ _ rfl rfl Ln.out ?_
    simp only [List.getElem_toArray, List.getElem_cons_zero, Act.put, List.setIfInBounds_toArray, List.set_cons_zero, List.set_cons_succ]
    refine lexH_load rfl rfl _ _ rfl rfl Lp.out ?_
    simp only [List.getElem_toArray, List.getElem_cons_succ, List.getElem_cons_zero, Act.put, List.setIfInBounds_toArray, List.set_cons_zero, List.set_cons_succ]
    refine lexH_yieldE rfl rfl ?_
    apply Exists.intro
    refine ⟨fun W hW => ?_, ?_⟩
    focus (go_simp; exact rfl)
    simp only [List.getElem_toArray, List.getElem_cons_succ, List.getElem_cons_zero, Act.put, List.setIfInBounds_toArray, List.set_cons_zero, List.set_cons_succ]
    refine lexH_yieldE rfl rfl ?_
    apply Exists.intro
    refine ⟨fun W hW => ?_, ?_⟩
    focus (go_simp; exact rfl)
    simp only [List.getElem_toArray, List.getElem_cons_succ, List.getElem_cons_zero, Act.put, List.setIfInBounds_toArray, List.set_cons_zero, List.set_cons_succ]
    refine lexH_load rfl rfl _ _ rfl rfl Ll.out ?_
    simp only [List.getElem_toArray, List.getElem_cons_succ, List.getElem_cons_zero, Act.put, List.setIfInBounds_toArray, List.set_cons_zero, List.set_cons_succ]
    refine lexH_yieldE rfl rfl ?_
    apply Exists.intro
    refine ⟨fun W hW => ?_, ?_⟩
    focus (go_simp; exact rfl)
    simp only [List.getElem_toArray, List.getElem_cons_succ, List.getElem_cons_zero, Act.put, List.setIfInBounds_toArray, List.set_cons_zero, List.set_cons_succ]
    refine lexH_yieldE rfl rfl ?_
    apply Exists.intro
    refine ⟨fun W hW => ?_, ?_⟩
    focus (go_simp; exact rfl)
    simp only [List.getElem_toArray, List.getElem_cons_succ, List.getElem_cons_zero, Act.put, List.setIfInBounds_toArray, List.set_cons_zero, List.set_cons_succ]
    refine lexH_last rfl rfl ?_
    unfold Oper.wp
    go_simp
    obtain ⟨V5, hV5⟩ : ∃ V5, V5 = (V.setCell ⟨pb + 1 + 1, 0, none⟩ (.bool true)).drew := ⟨_, rfl⟩
    have HOV := Lib.hid (show Only (fun k => k = nb ∨ k = pb + 2) W7 V5 from by
      rw [hV5]
      exact (HIV.out.only.trans (Only.of_below (Below.refl _ _).drew)).trans ((Only.setCell (S := fun k => k = pb + 2) V.drew ⟨pb + 2, 0, none⟩ rfl (.bool true)).mono (fun k hk => .inr hk)))
    have HRV := Lib.hid (show RowAt V5 (pb + 2) 1 (fun _ => .bool true) from by
      rw [hV5]
      exact ((HIV.out.rr.later (Below.refl _ _).drew).setCell 0 (.bool true)).ext (fun i hi => by
        obtain rfl : i = 0 := by omega
        simp [updV]))
    have HDV := Lib.hid (show V5.heap[D]? = some (.deferred (some [])) from by
      rw [hV5]
      exact ((Only.setCell (S := fun k => k = pb + 2) V.drew ⟨pb + 2, 0, none⟩ rfl (.bool true)).block D (Array.getElem?_eq_some_iff.1 HDK.out).1 (by omega)).trans HDK.out)
    rw [← hV5]
    clear Ln Lp Ll HIV HDK kr2 kz2 hV5
    go_wp2_with (fail)
    refine leaves_many [D] _ (by simp) (fun E hE => by
      rw [List.mem_singleton] at hE
      subst hE
      exact HDV.out) (fun W' ho2 hs2 => ⟨.bool true, ?_, rfl, ?_⟩)
    · have hc := ho2.cell (b := pb + 2) (o := 0) (v := .bool true) (fun h => by
        rw [List.mem_singleton] at h
        omega) (HRV.out.cell 0 (by decide))
      simp [results, Try.f20, go_sem, hc]
    · have hb5 : Below pb w V5 := HOV.out.below HB7.out (by have := HB7.out.size; have := HSA.out; have := HBA7.out.size; omega) (fun k hk => by have := HNS.out; omega)
      rw [hpb]
      exact ho2.below hb5 (by have := hb5.size; omega) (fun E hE => by
        rw [List.mem_singleton] at hE
        omega)
  case stop =>
    rintro D c pre V hD hsp ⟨rfl, hI⟩ hDk
    refine wpIn_ret ?_
    simp only [Exit.inBlock, Exit.then]
    have HIV := Lib.hid hI
    refine leaves_many [D] _ (by simp) (fun E hE => by
      rw [List.mem_singleton] at hE
      subst hE
      exact hDk) (fun W' ho2 hs2 => ⟨.bool true, ?_, rfl, ?_⟩)
    · have hc := ho2.cell (b := pb + 2) (o := 0) (v := .bool true) (fun h => by
        rw [List.mem_singleton] at h
        omega) (HIV.out.rr.cell 0 (by decide))
      simp [results, Try.f20, go_sem, hc]
    · have hb5 : Below pb w V := HIV.out.only.below HB7.out (by have := HB7.out.size; have := HSA.out; have := HBA7.out.size; omega) (fun k hk => by have := HNS.out; omega)
      rw [hpb]
      exact ho2.below hb5 (by have := hb5.size; omega) (fun E hE => by
        rw [List.mem_singleton] at hE
        omega)
end
end Go.Proofs.Ytndddfkebbeemaa
