/-
  slices.Clone at the memory's three slices; frames' Copy.
-/
import Derived.Test.YtecklmiiiklagaaFrNew
import Derived.Test.YtecklmiiiklagaaFrMark
import Derived.Test.YtecklmiiiklagaaLexH
import Derived.Lib.SliceRun
namespace Go.Proofs.Ytecklmiiiklagaa
open Go.RowKit Go

theorem agg30 (w : World) : (isAgg 30).run Try.prog w = .ok false w := by kernel_rfl
theorem agg22 (w : World) : (isAgg 22).run Try.prog w = .ok false w := by kernel_rfl
theorem agg31 (w : World) : (isAgg 31).run Try.prog w = .ok false w := by kernel_rfl
theorem mkV_one (K : Nat → Mk) (i : Nat) : (mkV K i).oneCell' = true := by
  unfold mkV
  rcases (show i % 5 = 0 ∨ i % 5 = 1 ∨ i % 5 = 2 ∨ i % 5 = 3 ∨ i % 5 = 4 by omega) with e | e | e | e | e <;> rw [e] <;> rfl
theorem old_alloc {w : World} {b : Nat} {news : List Value} {ob : Obj} (h : ∀ j u, news[j]? = some u → w.cell? ((⟨b, 0, none⟩ : Addr).add j) = some u) (hb : b < w.heap.size) : ∀ j u, news[j]? = some u → (w.alloc ob).cell? ((⟨b, 0, none⟩ : Addr).add j) = some u := fun j u hj => by
  have := h j u hj
  rw [Addr.add_mid] at this ⊢
  rw [World.cell?_of_block (w := w) (a := ⟨b, 0 + j, none⟩) (Below.heap_alloc w ob _ hb)]
  exact this

theorem cloneInts (b n c : Nat) (f : Nat → Value) (w : World) (R : RowAt w b (n * 1) f) (h1 : ∀ i, i < n * 1 → (f i).oneCell' = true) (hn : n ≤ 262144) (hp : 0 < n) :
    Calls Try.prog 27 #[.slice (some ⟨b, 0, none⟩) n c] w fun e w' => ∃ g cap, e = .returned (.slice (some ⟨g, 0, none⟩) n cap) ∧ w.heap.size ≤ g ∧ n ≤ cap ∧ RowAt w' g (n * 1) f ∧ Below w.heap.size w w' := by
  obtain ⟨i0, hi, hz0, hz1, hz2⟩ := info_parts infoInt
  have q : ∀ (w : World) (a : Option Addr) (n c n' c' : Nat), (binOp .eql 30 (.slice a n c) (.slice none n' c')).run Try.prog w = .ok (.bool a.isNone) w := fun w a n c n' c' => Lib.run_eql_slice_nil w _ _ a n c n' c' Try.underlying30
  obtain ⟨news, hnews⟩ : ∃ l, l = (List.range (n * 1)).map f := ⟨_, rfl⟩
  have hat : ∀ i, i < n * 1 → news[i]? = some (f i) := fun i hi => by rw [hnews, List.getElem?_map, List.getElem?_range hi]; rfl
  have hlen : news.length = n * 1 := by rw [hnews]; simp
  have HAT := Lib.hid hat
  have HC := Lib.hid (show ∀ j u, news[j]? = some u → w.cell? ((⟨b, 0, none⟩ : Addr).add j) = some u from fun j u hj => by
    have hlt : j < n * 1 := by rw [← hlen]; exact (List.getElem?_eq_some_iff.1 hj).1
    rw [Addr.add_mid, Nat.zero_add, R.cell j hlt, ← hat j hlt]; exact hj)
  have H1 := Lib.hid (show ∀ u ∈ news, u.oneCell' = true from fun u hu => by
    rw [hnews] at hu
    obtain ⟨j, hj, rfl⟩ := List.mem_map.1 hu
    exact h1 j (by simpa using hj))
  have HLT := Lib.hid R.lt
  clear R h1 hat hnews
  go_enter Try.func27, Try.ntmps27
  go_wp2_with (at_builtin; refine wpList_append_own _ rfl _ _ 30 rfl w.heap.size 3 i0 _ 1 8 Try.underlying30 hi hz0 hz1 hz2 rfl (by decide) _ _ _ rfl (World.ownsRow_made w #[] 0 (Nat.le_refl _) (Nat.zero_le _) (by simp)) ⟨b, 0, none⟩ n c news rfl hlen (old_alloc HC.out HLT.out) H1.out ?q4 ?q5 ?q6 ?_)
  case q4 => unfold maxLen; omega
  case q5 => omega
  case q6 => simp
  intro v' w1 hown hgr hnil
  obtain ⟨g, cap, rfl, hg, _, hcap, hr⟩ := RowAt.of_owns hown f HAT.out hnil
  have HR := Lib.hid hr
  have HB := Lib.hid (((Below.refl _ w).alloc (Nat.le_refl _) _).grown hgr (by simp) (by intro k hk; simp [Value.ownBlock] at hk; omega))
  clear hown hgr hnil hr
  go_wp2_with (fail)
  go_ret
  exact ⟨g, cap, rfl, hg, hcap, HR.out, HB.out⟩

theorem cloneBytes (b n c : Nat) (f : Nat → Value) (w : World) (R : RowAt w b (n * 1) f) (h1 : ∀ i, i < n * 1 → (f i).oneCell' = true) (hn : n ≤ 262144) (hp : 0 < n) :
    Calls Try.prog 28 #[.slice (some ⟨b, 0, none⟩) n c] w fun e w' => ∃ g cap, e = .returned (.slice (some ⟨g, 0, none⟩) n cap) ∧ w.heap.size ≤ g ∧ n ≤ cap ∧ RowAt w' g (n * 1) f ∧ Below w.heap.size w w' := by
  obtain ⟨i0, hi, hz0, hz1, hz2⟩ := info_parts infoByte
  have q : ∀ (w : World) (a : Option Addr) (n c n' c' : Nat), (binOp .eql 22 (.slice a n c) (.slice none n' c')).run Try.prog w = .ok (.bool a.isNone) w := fun w a n c n' c' => Lib.run_eql_slice_nil w _ _ a n c n' c' Try.underlying22
  obtain ⟨news, hnews⟩ : ∃ l, l = (List.range (n * 1)).map f := ⟨_, rfl⟩
  have hat : ∀ i, i < n * 1 → news[i]? = some (f i) := fun i hi => by rw [hnews, List.getElem?_map, List.getElem?_range hi]; rfl
  have hlen : news.length = n * 1 := by rw [hnews]; simp
  have HAT := Lib.hid hat
  have HC := Lib.hid (show ∀ j u, news[j]? = some u → w.cell? ((⟨b, 0, none⟩ : Addr).add j) = some u from fun j u hj => by
    have hlt : j < n * 1 := by rw [← hlen]; exact (List.getElem?_eq_some_iff.1 hj).1
    rw [Addr.add_mid, Nat.zero_add, R.cell j hlt, ← hat j hlt]; exact hj)
  have H1 := Lib.hid (show ∀ u ∈ news, u.oneCell' = true from fun u hu => by
    rw [hnews] at hu
    obtain ⟨j, hj, rfl⟩ := List.mem_map.1 hu
    exact h1 j (by simpa using hj))
  have HLT := Lib.hid R.lt
  clear R h1 hat hnews
  go_enter Try.func28, Try.ntmps28
  go_wp2_with (at_builtin; refine wpList_append_own _ rfl _ _ 22 rfl w.heap.size 5 i0 _ 1 1 Try.underlying22 hi hz0 hz1 hz2 rfl (by decide) _ _ _ rfl (World.ownsRow_made w #[] 0 (Nat.le_refl _) (Nat.zero_le _) (by simp)) ⟨b, 0, none⟩ n c news rfl hlen (old_alloc HC.out HLT.out) H1.out ?q4 ?q5 ?q6 ?_)
  case q4 => unfold maxLen; omega
  case q5 => omega
  case q6 => simp
  intro v' w1 hown hgr hnil
  obtain ⟨g, cap, rfl, hg, _, hcap, hr⟩ := RowAt.of_owns hown f HAT.out hnil
  have HR := Lib.hid hr
  have HB := Lib.hid (((Below.refl _ w).alloc (Nat.le_refl _) _).grown hgr (by simp) (by intro k hk; simp [Value.ownBlock] at hk; omega))
  clear hown hgr hnil hr
  go_wp2_with (fail)
  go_ret
  exact ⟨g, cap, rfl, hg, hcap, HR.out, HB.out⟩

theorem cloneMarks (b n c : Nat) (f : Nat → Value) (w : World) (R : RowAt w b (n * 5) f) (h1 : ∀ i, i < n * 5 → (f i).oneCell' = true) (hn : n ≤ 262144) (hp : 0 < n) :
    Calls Try.prog 29 #[.slice (some ⟨b, 0, none⟩) n c] w fun e w' => ∃ g cap, e = .returned (.slice (some ⟨g, 0, none⟩) n cap) ∧ w.heap.size ≤ g ∧ n ≤ cap ∧ RowAt w' g (n * 5) f ∧ Below w.heap.size w w' := by
  obtain ⟨i0, hi, hz0, hz1, hz2⟩ := info_parts infoMark
  have q : ∀ (w : World) (a : Option Addr) (n c n' c' : Nat), (binOp .eql 31 (.slice a n c) (.slice none n' c')).run Try.prog w = .ok (.bool a.isNone) w := fun w a n c n' c' => Lib.run_eql_slice_nil w _ _ a n c n' c' Try.underlying31
  obtain ⟨news, hnews⟩ : ∃ l, l = (List.range (n * 5)).map f := ⟨_, rfl⟩
  have hat : ∀ i, i < n * 5 → news[i]? = some (f i) := fun i hi => by rw [hnews, List.getElem?_map, List.getElem?_range hi]; rfl
  have hlen : news.length = n * 5 := by rw [hnews]; simp
  have HAT := Lib.hid hat
  have HC := Lib.hid (show ∀ j u, news[j]? = some u → w.cell? ((⟨b, 0, none⟩ : Addr).add j) = some u from fun j u hj => by
    have hlt : j < n * 5 := by rw [← hlen]; exact (List.getElem?_eq_some_iff.1 hj).1
    rw [Addr.add_mid, Nat.zero_add, R.cell j hlt, ← hat j hlt]; exact hj)
  have H1 := Lib.hid (show ∀ u ∈ news, u.oneCell' = true from fun u hu => by
    rw [hnews] at hu
    obtain ⟨j, hj, rfl⟩ := List.mem_map.1 hu
    exact h1 j (by simpa using hj))
  have HLT := Lib.hid R.lt
  clear R h1 hat hnews
  go_enter Try.func29, Try.ntmps29
  go_wp2_with (at_builtin; refine wpList_append_own _ rfl _ _ 31 rfl w.heap.size 25 i0 _ 5 40 Try.underlying31 hi hz0 hz1 hz2 rfl (by decide) _ _ _ rfl (World.ownsRow_made w #[] 0 (Nat.le_refl _) (Nat.zero_le _) (by simp)) ⟨b, 0, none⟩ n c news rfl hlen (old_alloc HC.out HLT.out) H1.out ?q4 ?q5 ?q6 ?_)
  case q4 => unfold maxLen; omega
  case q5 => omega
  case q6 => simp
  intro v' w1 hown hgr hnil
  obtain ⟨g, cap, rfl, hg, _, hcap, hr⟩ := RowAt.of_owns hown f HAT.out hnil
  have HR := Lib.hid hr
  have HB := Lib.hid (((Below.refl _ w).alloc (Nat.le_refl _) _).grown hgr (by simp) (by intro k hk; simp [Value.ownBlock] at hk; omega))
  clear hown hgr hnil hr
  go_wp2_with (fail)
  go_ret
  exact ⟨g, cap, rfl, hg, hcap, HR.out, HB.out⟩

/-- A step that is met as it is. -/
theorem lexH_eff {P : Program} {ops : Array Oper} {Q : Exit → Act → World → Prop} {S : World → Prop} {i : Nat} {r : List (Nat × Bool)} {a : Act} {w : World} {o : Oper} (hi : ops[i]? = some o) (hw : Region.wanted o (yielded ops a.tmps) = true)
    (h : o.wp P a w (fun a' w' => S w' ∧ LexH P ops Q S r a' w') Q) : LexH P ops Q S ((i, true) :: r) a w := by
  show wpOp P ops Q i _ a w
  unfold wpOp
  simp only [hi, hw, if_true]
  exact .inl h

/-- What Copy leaves. -/
def CopiedAt (w : World) (n T : Nat) (ST : Nat → Nat) (B : Nat → UInt8) (K : Nat → Mk) (e : Ending) (w' : World) : Prop :=
  ∃ M : MB, e = .returned (.pointer (some ⟨M.m, 0, none⟩)) ∧ MemAt w' M ST B K ∧ M.n = n ∧ M.T = T ∧ w.heap.size ≤ M.m ∧ w.heap.size ≤ M.sb ∧ w.heap.size ≤ M.bb ∧ w.heap.size ≤ M.kb ∧ Below w.heap.size w w'

theorem copy_gone (p : Option Addr) (w : World) (h : Gone w p) : Calls Try.prog 20 #[.pointer p] w fun e w' => e = .returned (.pointer none) ∧ w = w' := by
  have HG := Lib.hid h
  clear h
  go_enter Try.func20, Try.ntmps20
  go_wp2_with (fail)
  refine (frames_gone p w HG.out).mono ?_
  rintro e w' ⟨rfl, rfl⟩
  go_wp2_with (fail)
  go_ret
  exact ⟨rfl, rfl⟩

theorem copied {w : World} {M : MB} {ST : Nat → Nat} {B : Nat → UInt8} {K : Nat → Mk} (H : MemAt w M ST B K) {W0 W1 W2 W3 : World} {g1 q1 g2 q2 g3 q3 : Nat}
    (h0 : Kept w.heap.size w W0) (l1 : W0.heap.size ≤ g1) (_c1 : M.n + 1 ≤ q1) (r1 : RowAt W1 g1 ((M.n + 1) * 1) (stV ST)) (b1 : Below W0.heap.size W0 W1)
    (l2 : W1.heap.size ≤ g2) (c2 : M.T * 256 ≤ q2) (r2 : RowAt W2 g2 (M.T * 256 * 1) (byV B)) (b2 : Below W1.heap.size W1 W2)
    (l3 : W2.heap.size ≤ g3) (c3 : M.T ≤ q3) (r3 : RowAt W3 g3 (M.T * 5) (mkV K)) (b3 : Below W2.heap.size W2 W3) :
    CopiedAt w M.n M.T ST B K (.returned (.pointer (some ⟨W3.heap.size, 0, none⟩)))
      (W3.alloc (.cells #[.slice (some ⟨g1, 0, none⟩) (M.n + 1) q1, .slice (some ⟨g2, 0, none⟩) (M.T * 256) q2, .slice (some ⟨g3, 0, none⟩) M.T q3] 33)) := by
  have s0 := h0.below.size
  have s1 := b1.size
  have s2 := b2.size
  have s3 := b3.size
  have t1 := r1.lt
  have t2 := r2.lt
  have t3 := r3.lt
  rw [Nat.mul_one] at r1 r2
  have rr1 := (((r1.later b2).later b3).alloc (.cells #[.slice (some ⟨g1, 0, none⟩) (M.n + 1) q1, .slice (some ⟨g2, 0, none⟩) (M.T * 256) q2, .slice (some ⟨g3, 0, none⟩) M.T q3] 33))
  have rr2 := ((r2.later b3).alloc (.cells #[.slice (some ⟨g1, 0, none⟩) (M.n + 1) q1, .slice (some ⟨g2, 0, none⟩) (M.T * 256) q2, .slice (some ⟨g3, 0, none⟩) M.T q3] 33))
  have rr3 := (r3.alloc (.cells #[.slice (some ⟨g1, 0, none⟩) (M.n + 1) q1, .slice (some ⟨g2, 0, none⟩) (M.T * 256) q2, .slice (some ⟨g3, 0, none⟩) M.T q3] 33))
  refine ⟨⟨W3.heap.size, g1, g2, g3, M.n, M.T⟩, rfl, ⟨⟨q1, by simp [go_sem]⟩, ⟨q2, c2, by simp [go_sem]⟩, ⟨q3, c3, by simp [go_sem]⟩, rr1, rr2, rr3, H.st, H.n8, H.T4, H.T1, ?_, ?_, ?_, ?_, ?_⟩, rfl, rfl, ?_, ?_, ?_, ?_, ?_⟩
  · show g2 ≠ W3.heap.size; omega
  · show g2 ≠ g1; omega
  · show g2 ≠ g3; omega
  · show g3 ≠ W3.heap.size; omega
  · show g3 ≠ g1; omega
  · show w.heap.size ≤ W3.heap.size; omega
  · show w.heap.size ≤ g1; omega
  · show w.heap.size ≤ g2; omega
  · show w.heap.size ≤ g3; omega
  · exact (((h0.below.trans (b1.mono s0)).trans (b2.mono (by omega))).trans (b3.mono (by omega))).alloc (by omega) _

set_option maxRecDepth 100000 in
set_option maxHeartbeats 1000000 in
theorem copy_ok {w : World} {M : MB} {ST : Nat → Nat} {B : Nat → UInt8} {K : Nat → Mk} (H : MemAt w M ST B K) :
    Calls Try.prog 20 #[.pointer (some ⟨M.m, 0, none⟩)] w (CopiedAt w M.n M.T ST B K) := by
  obtain ⟨k0, h0⟩ := H.c0
  obtain ⟨k1, hk1, h1⟩ := H.c1
  obtain ⟨k2, hk2, h2⟩ := H.c2
  have HH := Lib.hid H
  have T4 := H.T4
  have T1 := H.T1
  have n8 := H.n8
  have HF := Lib.hid (frames_at M.m _ M.T k2 w h2)
  have hml := World.block_lt_of_cell? _ _ h0
  have L0 := Lib.hid (show ∀ W, Kept w.heap.size w W → (loadVar 30 ⟨M.m, 0, none⟩).run Try.prog W = .ok (.slice (some ⟨M.sb, 0, none⟩) (M.n + 1) k0) W from
    fun W hW => run_loadVar_cell agg30 (by rw [hW.cell hml]; exact h0))
  have L1 := Lib.hid (show ∀ W, Kept w.heap.size w W → (loadVar 22 ⟨M.m, 1, none⟩).run Try.prog W = .ok (.slice (some ⟨M.bb, 0, none⟩) (M.T * 256) k1) W from
    fun W hW => run_loadVar_cell agg22 (by rw [hW.cell hml]; exact h1))
  have L2 := Lib.hid (show ∀ W, Kept w.heap.size w W → (loadVar 31 ⟨M.m, 2, none⟩).run Try.prog W = .ok (.slice (some ⟨M.kb, 0, none⟩) M.T k2) W from
    fun W hW => run_loadVar_cell agg31 (by rw [hW.cell hml]; exact h2))
  clear H h0 h1 h2
  go_enter Try.func20, Try.ntmps20
  go_wp2_with (fail)
  refine HF.out.mono ?_
  rintro e w' ⟨rfl, rfl⟩
  go_wp2_with (fail)
  refine wp_region_lex (Kept w.heap.size w) [(0, false), (1, false), (2, false), (3, false), (5, false), (6, false), (7, false), (8, false), (10, false), (11, false), (12, false), (13, false), (4, true), (9, true), (14, true), (15, false), (16, true), (17, false)]
    (by kernel_rfl) (by kernel_rfl) rfl (by kernel_rfl) ⟨rfl, rfl, rfl, Nat.le_refl _, fun _ _ => rfl⟩ ?_
  intro W0 hK0
  refine lexH_yieldE rfl rfl ?_
  apply Exists.intro
  refine ⟨fun W hW => ?_, ?_⟩
  focus (go_simp; exact rfl)
  simp only [List.getElem_toArray, List.getElem_cons_zero, Act.put, List.setIfInBounds_toArray, List.set_cons_zero, List.set_cons_succ]
  refine lexH_yieldE rfl rfl ?_
  apply Exists.intro
  refine ⟨fun W hW => ?_, ?_⟩
  focus (go_simp; exact rfl)
  simp only [List.getElem_toArray, List.getElem_cons_succ, List.getElem_cons_zero, Act.put, List.setIfInBounds_toArray, List.set_cons_zero, List.set_cons_succ]
  refine lexH_yieldE rfl rfl ?_
  apply Exists.intro
  refine ⟨fun W hW => ?_, ?_⟩
  focus (go_simp; exact rfl)
  simp only [List.getElem_toArray, List.getElem_cons_succ, List.getElem_cons_zero, Act.put, List.setIfInBounds_toArray, List.set_cons_zero, List.set_cons_succ]
  refine lexH_load rfl rfl _ _ rfl rfl L0.out ?_
  simp only [List.getElem_toArray, List.getElem_cons_succ, List.getElem_cons_zero, Act.put, List.setIfInBounds_toArray, List.set_cons_zero, List.set_cons_succ]
  refine lexH_yieldE rfl rfl ?_
  apply Exists.intro
  refine ⟨fun W hW => ?_, ?_⟩
  focus (go_simp; exact rfl)
  simp only [List.getElem_toArray, List.getElem_cons_succ, List.getElem_cons_zero, Act.put, List.setIfInBounds_toArray, List.set_cons_zero, List.set_cons_succ]
  refine lexH_yieldE rfl rfl ?_
  apply Exists.intro
  refine ⟨fun W hW => ?_, ?_⟩
  focus (go_simp; exact rfl)
  simp only [List.getElem_toArray, List.getElem_cons_succ, List.getElem_cons_zero, Act.put, List.setIfInBounds_toArray, List.set_cons_zero, List.set_cons_succ]
  refine lexH_yieldE rfl rfl ?_
  apply Exists.intro
  refine ⟨fun W hW => ?_, ?_⟩
  focus (go_simp; exact rfl)
  simp only [List.getElem_toArray, List.getElem_cons_succ, List.getElem_cons_zero, Act.put, List.setIfInBounds_toArray, List.set_cons_zero, List.set_cons_succ]
  refine lexH_load rfl rfl _ _ rfl rfl L1.out ?_
  simp only [List.getElem_toArray, List.getElem_cons_succ, List.getElem_cons_zero, Act.put, List.setIfInBounds_toArray, List.set_cons_zero, List.set_cons_succ]
  refine lexH_yieldE rfl rfl ?_
  apply Exists.intro
  refine ⟨fun W hW => ?_, ?_⟩
  focus (go_simp; exact rfl)
  simp only [List.getElem_toArray, List.getElem_cons_succ, List.getElem_cons_zero, Act.put, List.setIfInBounds_toArray, List.set_cons_zero, List.set_cons_succ]
  refine lexH_yieldE rfl rfl ?_
  apply Exists.intro
  refine ⟨fun W hW => ?_, ?_⟩
  focus (go_simp; exact rfl)
  simp only [List.getElem_toArray, List.getElem_cons_succ, List.getElem_cons_zero, Act.put, List.setIfInBounds_toArray, List.set_cons_zero, List.set_cons_succ]
  refine lexH_yieldE rfl rfl ?_
  apply Exists.intro
  refine ⟨fun W hW => ?_, ?_⟩
  focus (go_simp; exact rfl)
  simp only [List.getElem_toArray, List.getElem_cons_succ, List.getElem_cons_zero, Act.put, List.setIfInBounds_toArray, List.set_cons_zero, List.set_cons_succ]
  refine lexH_load rfl rfl _ _ rfl rfl L2.out ?_
  simp only [List.getElem_toArray, List.getElem_cons_succ, List.getElem_cons_zero, Act.put, List.setIfInBounds_toArray, List.set_cons_zero, List.set_cons_succ]
  refine lexH_call 27 #[.slice (some ⟨M.sb, 0, none⟩) (M.n + 1) k0] rfl rfl ?_ ?_
  focus (go_simp; done)
  refine (cloneInts _ _ _ _ _ (by rw [Nat.mul_one]; exact HH.out.starts.block (hK0.block _ HH.out.starts.lt)) (fun _ _ => rfl) (by omega) (by omega)).mono ?_
  rintro e W1 ⟨g1, q1, rfl, lg1, lq1, R1, hb1⟩
  have hK1 := hK0.call (Nat.le_refl _) hb1
  refine ⟨_, rfl, hK1, ?_⟩
  simp only [List.getElem_toArray, List.getElem_cons_succ, List.getElem_cons_zero, Act.put, List.setIfInBounds_toArray, List.set_cons_zero, List.set_cons_succ]
  refine lexH_call 28 #[.slice (some ⟨M.bb, 0, none⟩) (M.T * 256) k1] rfl rfl ?_ ?_
  focus (go_simp; done)
  refine (cloneBytes _ _ _ _ _ (by rw [Nat.mul_one]; exact HH.out.bytes.block (hK1.block _ HH.out.bytes.lt)) (fun _ _ => rfl) (by omega) (by omega)).mono ?_
  rintro e W2 ⟨g2, q2, rfl, lg2, lq2, R2, hb2⟩
  have hK2 := hK1.call (Nat.le_refl _) hb2
  refine ⟨_, rfl, hK2, ?_⟩
  simp only [List.getElem_toArray, List.getElem_cons_succ, List.getElem_cons_zero, Act.put, List.setIfInBounds_toArray, List.set_cons_zero, List.set_cons_succ]
  refine lexH_call 29 #[.slice (some ⟨M.kb, 0, none⟩) M.T k2] rfl rfl ?_ ?_
  focus (go_simp; done)
  refine (cloneMarks _ _ _ _ _ (HH.out.marks.block (hK2.block _ HH.out.marks.lt)) (fun i _ => mkV_one K i) (by omega) (by omega)).mono ?_
  rintro e W3 ⟨g3, q3, rfl, lg3, lq3, R3, hb3⟩
  have hK3 := hK2.call (Nat.le_refl _) hb3
  refine ⟨_, rfl, hK3, ?_⟩
  simp only [List.getElem_toArray, List.getElem_cons_succ, List.getElem_cons_zero, Act.put, List.setIfInBounds_toArray, List.set_cons_zero, List.set_cons_succ]
  refine lexH_yieldE rfl rfl ?_
  apply Exists.intro
  refine ⟨fun W hW => ?_, ?_⟩
  focus (go_simp; exact rfl)
  simp only [List.getElem_toArray, List.getElem_cons_succ, List.getElem_cons_zero, Act.put, List.setIfInBounds_toArray, List.set_cons_zero, List.set_cons_succ]
  refine lexH_eff rfl rfl ?_
  unfold Oper.wp
  go_simp
  refine ⟨hK3.below.alloc hK3.below.size _, ?_⟩
  refine lexH_yieldE rfl rfl ?_
  apply Exists.intro
  refine ⟨fun W hW => ?_, ?_⟩
  focus (go_simp; exact rfl)
  simp only [List.getElem_toArray, List.getElem_cons_succ, List.getElem_cons_zero, Act.put, List.setIfInBounds_toArray, List.set_cons_zero, List.set_cons_succ]
  refine lexH_nil ?_
  have HF2 := Lib.hid (copied HH.out hK0 lg1 lq1 R1 hb1 lg2 lq2 R2 hb2 lg3 lq3 R3 hb3)
  clear hK0 hK1 hK2 hK3 R1 R2 R3 hb1 hb2 hb3
  go_wp2_with (fail)
  go_ret
  exact HF2.out
end Go.Proofs.Ytecklmiiiklagaa
