/-
  calls, the document's: a result's bytes.
-/
import Derived.Test.YtkmjkkeldbocdaaDoorCsRes
import Derived.Test.YtkmjkkeldbocdaaDoorLexH
import Derived.Test.YtkmjkkeldbocdaaDoorLexApp
namespace Go.Proofs.YtkmjkkeldbocdaaDoor
open Go.RowKit Go
attribute [local go_sem] Oper.semAt_some

theorem u64_nat {q : Nat} (h : q < 18446744073709551616) : IntKind.u64.wrap (q : Int) = q := by
  simp [IntKind.wrap, IntKind.bits, IntKind.signed]
  omega
theorem BytAt.later {base : Nat} {L : List UInt8} {v : Value} {w w' : World} (h : BytAt base L v w) (hb : Below w.heap.size w w') : BytAt base L v w' := owns_later h hb
theorem BytAt.low {base base' : Nat} {L : List UInt8} {v : Value} {w : World} (h : BytAt base L v w) (hb : base' ≤ base) : BytAt base' L v w := owns_base h (fun k hk => Nat.le_trans hb (h.lt k hk).1)
theorem BytAt.only {S : Nat → Prop} {base : Nat} {L : List UInt8} {v : Value} {w w' : World} (h : BytAt base L v w) (ho : Only S w w') (hs : ∀ k, v.ownBlock = some k → ¬ S k) : BytAt base L v w' := owns_only h ho hs
theorem BytAt.more {base : Nat} {L M : List UInt8} {v : Value} {w : World} (h : w.ownsRow base 5 1 v (L.length + M.length) (bvs L ++ bvs M)) : BytAt base (L ++ M) v w := by
  unfold BytAt
  rw [List.length_append, bvs_append]
  exact h
theorem BytAt.there {base : Nat} {L : List UInt8} {v : Value} {w : World} (h : BytAt base L v w) : ∃ a c, v = .slice a L.length c ∧ (0 < L.length → ∃ ad, a = some ad ∧ ∀ j u, (bvs L)[j]? = some u → w.cell? (ad.add j) = some u) := by
  obtain ⟨a, c, e, hc⟩ := owns_slice h
  refine ⟨a, c, e, fun h0 => ?_⟩
  obtain ⟨g, e2, _, _, A, t, hA, hf⟩ := hc h0
  refine ⟨⟨g, 0, none⟩, e2, fun j u hu => ?_⟩
  have hadd : (⟨g, 0, none⟩ : Addr).add j = ⟨g, j, none⟩ := by unfold Addr.add; split <;> simp_all
  have hj := (List.getElem?_eq_some_iff.1 hu).1
  unfold bvs at hj
  rw [List.length_map] at hj
  rw [hadd, cell_of_row _ _ _ _ _ _ hA, hf j (by omega), hu]
theorem bvs_one (L : List UInt8) : ∀ u ∈ bvs L, u.oneCell' = true := by
  intro u hu
  obtain ⟨b, _, rfl⟩ := List.mem_map.1 hu
  rfl
theorem bvs_len (L : List UInt8) : (bvs L).length = L.length := List.length_map ..
/-- A slice's bytes as a list. -/
def lisX (x : Nat → UInt8) (n : Nat) : List UInt8 := (List.range n).map x
theorem lisX_len (x : Nat → UInt8) (n : Nat) : (lisX x n).length = n := by simp [lisX]
theorem bvs_lisX (x : Nat → UInt8) (n : Nat) : bvs (lisX x n) = bytL n x := by
  unfold bvs lisX bytL
  rw [List.map_map]
  rfl
def resL (e v : Nat) (x : Nat → UInt8) (n : Nat) : List UInt8 := ((wordL e ++ wordL v) ++ wordL n) ++ lisX x n
set_option maxRecDepth 100000 in
set_option maxHeartbeats 4000000 in
theorem resbytes_any (e v : Nat) (he : e ≤ 999) (hv : v < 18446744073709551616) (a : Option Addr) (n c : Nat) (x : Nat → UInt8) (hn : n ≤ 2000) (w : World) (hS : Src w a n x) :
    Calls Tryd.prog 29 #[rsV (e : Int) v a n c] w (BytPost (resL e v x n) w) := by
  obtain ⟨i0, hi, hz0, hz1, hz2⟩ := info_parts infoByte
  have hb : Below w.heap.size w (w.alloc (.cells (rsA (e : Int) v a n c) 41)) := (Below.refl _ _).alloc (Nat.le_refl _) _
  have k0 : (w.alloc (.cells (rsA (e : Int) v a n c) 41)).cell? ⟨w.heap.size, 0, none⟩ = some (.int .i64 (e : Int)) := by simp [go_sem]
  have k1 : (w.alloc (.cells (rsA (e : Int) v a n c) 41)).cell? ⟨w.heap.size, 1, none⟩ = some (.int .u64 (v : Int)) := by simp [go_sem]
  have k2 : (w.alloc (.cells (rsA (e : Int) v a n c) 41)).cell? ⟨w.heap.size, 2, none⟩ = some (.slice a n c) := by simp [go_sem]
  have HS0 := Lib.hid hS
  have HB := Lib.hid hb
  have HW1 := Lib.hid (fun W => word_any e (by omega) W)
  have HW2 := Lib.hid (fun W => word_any v hv W)
  have HW3 := Lib.hid (fun W => word_any n (by omega) W)
  have heI : (e : Int) ≤ 999 := by omega
  have hnI : (n : Int) ≤ 2000 := by omega
  clear hS hb hv he hn
  go_enter Tryd.func29, Tryd.ntmps29
  go_wp2_with (fail)
  generalize w.alloc (.cells (rsA (e : Int) v a n c) 41) = w1 at *
  have L0 := Lib.hid (show ∀ W, Kept w1.heap.size w1 W → (loadVar 32 ⟨w.heap.size, 0, none⟩).run Tryd.prog W = .ok (.int .i64 (e : Int)) W from fun W hW => run_loadVar_cell (fun _ => by kernel_rfl) (by rw [hW.cell (World.block_lt_of_cell? _ _ k0)]; exact k0))
  have L1 := Lib.hid (show ∀ W, Kept w1.heap.size w1 W → (loadVar 26 ⟨w.heap.size, 1, none⟩).run Tryd.prog W = .ok (.int .u64 (v : Int)) W from fun W hW => run_loadVar_cell (fun _ => by kernel_rfl) (by rw [hW.cell (World.block_lt_of_cell? _ _ k1)]; exact k1))
  have LV := Lib.hid (show ∀ W, Kept w1.heap.size w1 W → (convert 32 26 (.int .i64 (e : Int))).run Tryd.prog W = .ok (.int .u64 (e : Int)) W from fun W _ => by
    go_simp
    exact u64_nat (by omega))
  refine wp_region_lex (Kept w1.heap.size w1) [(0, false), (1, false), (2, false), (4, false), (5, false), (3, true), (6, true), (7, true), (8, false)] (by kernel_rfl) (by kernel_rfl) rfl (by kernel_rfl) (Below.refl _ w1).drew ?_
  intro W0 hK0
  have HK0 := Lib.hid hK0
  clear hK0
  refine lexH_yieldE rfl rfl ?_
  apply Exists.intro
  refine ⟨fun W hW => ?_, ?_⟩
  focus (go_simp; exact rfl)
  simp only [List.getElem_toArray, List.getElem_cons_zero, Act.put, List.setIfInBounds_toArray, List.set_cons_zero, List.set_cons_succ]
  refine lexH_load rfl rfl _ _ rfl rfl L0.out ?_
  simp only [List.getElem_toArray, List.getElem_cons_succ, List.getElem_cons_zero, Act.put, List.setIfInBounds_toArray, List.set_cons_zero, List.set_cons_succ]
  refine lexH_conv rfl rfl _ _ _ rfl rfl LV.out ?_
  simp only [List.getElem_toArray, List.getElem_cons_succ, List.getElem_cons_zero, Act.put, List.setIfInBounds_toArray, List.set_cons_zero, List.set_cons_succ]
  refine lexH_yieldE rfl rfl ?_
  apply Exists.intro
  refine ⟨fun W hW => ?_, ?_⟩
  focus (go_simp; exact rfl)
  simp only [List.getElem_toArray, List.getElem_cons_succ, List.getElem_cons_zero, Act.put, List.setIfInBounds_toArray, List.set_cons_zero, List.set_cons_succ]
  refine lexH_load rfl rfl _ _ rfl rfl L1.out ?_
  simp only [List.getElem_toArray, List.getElem_cons_succ, List.getElem_cons_zero, Act.put, List.setIfInBounds_toArray, List.set_cons_zero, List.set_cons_succ]
  refine lexH_call 44 #[.int .u64 (e : Int)] rfl rfl ?_ ?_
  focus (go_simp; done)
  refine (HW1.out _).mono ?_
  rintro r W1 ⟨v1, rfl, h1, hb1⟩
  have HK1 := Lib.hid (HK0.out.call (Nat.le_refl _) hb1)
  have HV1 := Lib.hid (h1.low HK0.out.below.size)
  refine ⟨_, rfl, HK1.out, ?_⟩
  clear hb1 HK0 h1 HW1
  simp only [List.getElem_toArray, List.getElem_cons_succ, List.getElem_cons_zero, Act.put, List.setIfInBounds_toArray, List.set_cons_zero, List.set_cons_succ]
  refine lexH_call 44 #[.int .u64 (v : Int)] rfl rfl ?_ ?_
  focus (go_simp; done)
  refine (HW2.out _).mono ?_
  rintro r W2 ⟨v2, rfl, h2, hb2⟩
  have HK2 := Lib.hid (HK1.out.call (Nat.le_refl _) hb2)
  have HV1b := Lib.hid (HV1.out.later hb2)
  obtain ⟨a2, c2, e2, hc2⟩ := h2.there
  have HC2 := Lib.hid hc2
  refine ⟨_, rfl, HK2.out, ?_⟩
  clear hb2 HK1 HV1 HW2 h2 hc2
  subst e2
  simp only [List.getElem_toArray, List.getElem_cons_succ, List.getElem_cons_zero, Act.put, List.setIfInBounds_toArray, List.set_cons_zero, List.set_cons_succ]
  refine lexH_append_src W2 rfl rfl _ _ 27 rfl w1.heap.size 5 i0 _ 1 1 Tryd.underlying27 hi hz0 hz1 hz2 rfl (by decide) _ _ _ HV1b.out HK2.out.below.size a2 _ c2 (bvs (wordL v)) rfl rfl (by rw [bvs_len]; omega) HC2.out (bvs_one _) (by rw [wordL_len, wordL_len]; decide) (by decide) ?_
  intro v3 W3 hown3 ho3 _
  have HV3 := Lib.hid (BytAt.more hown3)
  have HK3 := Lib.hid (show Kept w1.heap.size w1 W3 from ho3.below HK2.out.below HK2.out.below.size (fun k hk => (HV1b.out.lt k hk).1))
  clear hown3 ho3 HV1b HC2 HK2
  refine ⟨HK3.out, ?_⟩
  simp only [List.getElem_toArray, List.getElem_cons_succ, List.getElem_cons_zero, Act.put, List.setIfInBounds_toArray, List.set_cons_zero, List.set_cons_succ]
  refine lexH_yieldE rfl rfl ?_
  apply Exists.intro
  refine ⟨fun W hW => ?_, ?_⟩
  focus (go_simp; exact rfl)
  simp only [List.getElem_toArray, List.getElem_cons_succ, List.getElem_cons_zero, Act.put, List.setIfInBounds_toArray, List.set_cons_zero, List.set_cons_succ]
  refine lexH_nil ?_
  clear L0 L1 LV
  have k2' : W3.cell? ⟨w.heap.size, 2, none⟩ = some (.slice a n c) := by rw [HK3.out.cell (World.block_lt_of_cell? _ _ k2)]; exact k2
  have HB3 := Lib.hid (HB.out.trans (HK3.out.below.mono HB.out.size))
  have HZ := Lib.hid (show w.heap.size < w1.heap.size from World.block_lt_of_cell? _ _ k0)
  have hwn : IntKind.u64.wrap (n : Int) = n := u64_nat (by omega)
  clear k0 k1 k2 HB
  go_wp2_with (fail)
  refine (HW3.out _).mono ?_
  rintro r W4 ⟨v4, rfl, h4, hb4⟩
  obtain ⟨a4, c4, e4, hc4⟩ := h4.there
  have HC4 := Lib.hid hc4
  have HV4 := Lib.hid ((HV3.out.low (Nat.le_of_lt HZ.out)).later hb4)
  have k4 : W4.cell? ⟨w.heap.size, 2, none⟩ = some (.slice a n c) := by rw [hb4.cell (World.block_lt_of_cell? _ _ k2')]; exact k2'
  have HB4 := Lib.hid (HB3.out.trans (hb4.mono HB3.out.size))
  have HP4 := Lib.hid (fun k (hk : v3.ownBlock = some k) => (HV3.out.lt k hk).1)
  clear k2' HB3 HV3 hb4 hc4 h4 HW3 HK3
  subst e4
  go_wp2_with (first | (at_builtin; refine wpList_append_src W4 rfl _ _ 27 rfl w.heap.size 5 i0 _ 1 1 Tryd.underlying27 hi hz0 hz1 hz2 rfl (by decide) _ _ _ rfl HV4.out a4 _ c4 (bvs (wordL n)) rfl (by rw [bvs_len]; omega) HC4.out (bvs_one _) (by rw [List.length_append, wordL_len, wordL_len, wordL_len]; decide) (by rw [List.length_append, wordL_len, wordL_len, wordL_len]; decide) HB4.out.size ?_; intro v5 W5 hown5 hg5 _; have ho5 : Only (fun k => v3.ownBlock = some k) W4 W5 := Only.of_grown hg5; have k5 : W5.cell? ⟨w.heap.size, 2, none⟩ = some (.slice a n c) := ho5.cell (fun h => by have := HP4.out _ h; have := HZ.out; omega) k4; have HV5 := Lib.hid (BytAt.more hown5); have HB5 := Lib.hid (ho5.below HB4.out HB4.out.size (fun k hk => by have := HP4.out _ hk; have := HZ.out; omega)); clear hown5 hg5 ho5 k4 HV4 HB4 HC4 HP4) | (at_builtin; refine wpList_append_src W5 rfl _ _ 27 rfl w.heap.size 5 i0 _ 1 1 Tryd.underlying27 hi hz0 hz1 hz2 rfl (by decide) _ _ _ rfl HV5.out a n c (bytL n x) rfl (by rw [bytL_len]; omega) (HS0.out.later HB5.out).cells (bytL_one _ _) (by rw [List.length_append, List.length_append, wordL_len, wordL_len, wordL_len]; unfold maxLen; omega) (by rw [List.length_append, List.length_append, wordL_len, wordL_len, wordL_len]; omega) HB5.out.size ?_; intro v6 W6 hown6 hg6 _) | fail)
  have ho6 : Only (fun k => v5.ownBlock = some k) W5 W6 := Only.of_grown hg6
  have HB6 := Lib.hid (ho6.below HB5.out HB5.out.size (fun k hk => (HV5.out.lt k hk).1))
  have HV6 := Lib.hid (show BytAt w.heap.size (resL e v x n) v6 W6 from by
    unfold resL
    refine BytAt.more ?_
    rw [bvs_lisX, lisX_len]
    exact hown6)
  clear hown6 hg6 ho6 HV5 HB5
  go_ret
  exact ⟨_, rfl, HV6.out, HB6.out⟩
end Go.Proofs.YtkmjkkeldbocdaaDoor
