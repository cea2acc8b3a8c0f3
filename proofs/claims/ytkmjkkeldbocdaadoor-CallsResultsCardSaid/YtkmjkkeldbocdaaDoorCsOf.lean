/-
  calls, the document's: a call out of whole numbers.
-/
import Derived.Test.YtkmjkkeldbocdaaDoorCsList
namespace Go.Proofs.YtkmjkkeldbocdaaDoor
open Go.RowKit Go
attribute [local go_sem] Oper.semAt_some

def lenK (k : Nat) : Nat := match k with
  | 2 => 1
  | 3 => 4
  | 4 => 3
  | 5 => 4
  | 6 => 3
  | 7 => 3
  | 8 => 3
  | 9 => 2
  | 10 => 1
  | 11 => 1
  | 12 => 3
  | 13 => 2
  | 14 => 3
  | 15 => 5
  | 16 => 2
  | 17 => 2
  | 18 => 4
  | 19 => 1
  | 20 => 1
  | _ => 0
def ofN (k : Nat) (g : Nat → Nat) : CallM := match k with
  | 1 => ⟨1, 0, 0, 0, 0, 0, 0, 0, 0, 0, 0⟩
  | 2 => ⟨2, wrap64 (g 0), 0, 0, 0, 0, 0, 0, 0, 0, 0⟩
  | 3 => ⟨3, wrap64 (g 0), 0, wrap64 (g 1), wrap64 (g 2), 0, 0, g 3 % 256, 0, 0, 0⟩
  | 4 => ⟨4, wrap64 (g 0), 0, wrap64 (g 1), wrap64 (g 2), 0, 0, 0, 0, 0, 0⟩
  | 5 => ⟨5, wrap64 (g 0), 0, wrap64 (g 1), wrap64 (g 2), 0, 0, g 3 % 256, 0, 0, 0⟩
  | 6 => ⟨6, wrap64 (g 0), 0, wrap64 (g 1), wrap64 (g 2), 0, 0, 0, 0, 0, 0⟩
  | 7 => ⟨7, wrap64 (g 0), 0, wrap64 (g 1), wrap64 (g 2), 0, 0, 0, 0, 0, 0⟩
  | 8 => ⟨8, wrap64 (g 0), 0, 0, 0, wrap64 (g 1), wrap64 (g 2), 0, 0, 0, 0⟩
  | 9 => ⟨9, wrap64 (g 0), 0, 0, 0, wrap64 (g 1), 0, 0, 0, 0, 0⟩
  | 10 => ⟨10, 0, 0, 0, 0, 0, wrap64 (g 0), 0, 0, 0, 0⟩
  | 11 => ⟨11, 0, 0, 0, 0, 0, 0, 0, 0, 0, g 0⟩
  | 12 => ⟨12, 0, 0, 0, 0, wrap64 (g 1), wrap64 (g 2), 0, 0, 0, g 0⟩
  | 13 => ⟨13, 0, 0, 0, 0, wrap64 (g 1), 0, 0, 0, 0, g 0⟩
  | 14 => ⟨14, wrap64 (g 0), 0, 0, 0, 0, 0, 0, g 1 % 256, g 2 % 256, 0⟩
  | 15 => ⟨15, wrap64 (g 0), 0, wrap64 (g 1), wrap64 (g 2), 0, 0, 0, g 3 % 256, g 4 % 256, 0⟩
  | 16 => ⟨16, wrap64 (g 0), 0, wrap64 (g 1), 0, 0, 0, 0, 0, 0, 0⟩
  | 17 => ⟨17, wrap64 (g 0), 0, wrap64 (g 1), 0, 0, 0, 0, 0, 0, 0⟩
  | 18 => ⟨18, wrap64 (g 0), wrap64 (g 3), wrap64 (g 1), wrap64 (g 2), 0, 0, 0, 0, 0, 0⟩
  | 19 => ⟨19, 0, wrap64 (g 0), 0, 0, 0, 0, 0, 0, 0, 0⟩
  | 20 => ⟨20, 0, wrap64 (g 0), 0, 0, 0, 0, 0, 0, 0, 0⟩
  | 21 => ⟨21, 0, 0, 0, 0, 0, 0, 0, 0, 0, 0⟩
  | _ => ⟨k, 0, 0, 0, 0, 0, 0, 0, 0, 0, 0⟩
theorem results_cell1 {fn : Func} {p : Tmp} {ty : TypeId} (h : fn.results = #[.cell p ty]) (tmps : Array Value) (P : Program) (w : World) :
    (results fn tmps).run P w = ((asAddr (tmps.getD p undef)).run P w).andThen fun a w₁ => (loadVar ty a).run P w₁ := by
  simp only [results, h]
  simp [Sem.run_bind, Result.andThen]
theorem listN_len (q : CallM) : (listN q).length = lenK q.kind := by
  obtain ⟨kind, pid, node, page, count, addr, size, rights, pk, pm, handle⟩ := q
  unfold listN lenK
  dsimp only
  split <;> first | rfl | (split <;> first | rfl | (exfalso; simp_all))
def OfPost (q : CallM) (a : Option Addr) (m d : Nat) (w : World) (e : Ending) (w' : World) : Prop := e = .returned (.agg (q.cells a m d)) ∧ Below w.heap.size w w'
theorem NumAt.at_ {base : Nat} {L : List Nat} {v : Value} {w : World} (h : NumAt base L v w) (h0 : 0 < L.length) : ∃ b c, v = .slice (some ⟨b, 0, none⟩) L.length c ∧ ∀ i, i < L.length → w.cell? ⟨b, i, none⟩ = some (.int .u64 ((L.getD i 0 : Nat) : Int)) := by
  obtain ⟨a, c, rfl, hb⟩ := h
  obtain ⟨b, rfl, _, hR⟩ := hb h0
  exact ⟨b, c, rfl, fun i hi => hR.cell i hi⟩
set_option maxRecDepth 100000 in
set_option maxHeartbeats 4000000 in
theorem of1_any {base : Nat} {L : List Nat} {v : Value} {w : World} (h : NumAt base L v w) (hL : L.length = 0) (a : Option Addr) (m d : Nat) : Calls Tryd.prog 38 #[.int .u8 1, v, .slice a m d] w (OfPost (ofN 1 fun i => L.getD i 0) a m d w) := by
  obtain ⟨x, c, rfl, _⟩ := h
  rw [hL]
  have HO := Lib.hid (show ofN 1 (fun i => L.getD i 0) = ⟨1, 0, 0, 0, 0, 0, 0, 0, 0, 0, 0⟩ by
    unfold ofN
    rfl)
  rw [HO.out]
  go_enter Tryd.func38, Tryd.ntmps38
  go_wp2_with (fail)
  refine bodyPost_ret (v := .agg _) ?_ rfl ⟨rfl, ((Below.refl _ _).alloc (Nat.le_refl _) _).alloc (by simp) _⟩
  rw [results_cell1 rfl]
  go_simp
  done
set_option maxRecDepth 100000 in
set_option maxHeartbeats 4000000 in
theorem of2_any {base : Nat} {L : List Nat} {v : Value} {w : World} (h : NumAt base L v w) (hL : L.length = 1) (a : Option Addr) (m d : Nat) : Calls Tryd.prog 38 #[.int .u8 2, v, .slice a m d] w (OfPost (ofN 2 fun i => L.getD i 0) a m d w) := by
  obtain ⟨b, c, rfl, hc⟩ := h.at_ (by omega)
  rw [hL] at hc ⊢
  have k0 := hc 0 (by decide)
  generalize hg0 : L.getD 0 0 = l0 at *
  have hg : (fun i => L.getD i 0) = fun i => L.getD i 0 := rfl
  have hb := World.block_lt_of_cell? _ _ k0
  have HO := Lib.hid (show ofN 2 (fun i => L.getD i 0) = ⟨2, wrap64 (l0), 0, 0, 0, 0, 0, 0, 0, 0, 0⟩ by
    unfold ofN
    simp only [hg0])
  rw [HO.out]
  clear hc hg hg0
  go_enter Tryd.func38, Tryd.ntmps38
  go_wp2_with (fail)
  refine bodyPost_ret (v := .agg _) ?_ rfl ⟨rfl, ((Below.refl _ _).alloc (Nat.le_refl _) _).alloc (by simp) _⟩
  rw [results_cell1 rfl]
  go_simp
  done
set_option maxRecDepth 100000 in
set_option maxHeartbeats 4000000 in
theorem of3_any {base : Nat} {L : List Nat} {v : Value} {w : World} (h : NumAt base L v w) (hL : L.length = 4) (a : Option Addr) (m d : Nat) : Calls Tryd.prog 38 #[.int .u8 3, v, .slice a m d] w (OfPost (ofN 3 fun i => L.getD i 0) a m d w) := by
  obtain ⟨b, c, rfl, hc⟩ := h.at_ (by omega)
  rw [hL] at hc ⊢
  have k0 := hc 0 (by decide)
  have k1 := hc 1 (by decide)
  have k2 := hc 2 (by decide)
  have k3 := hc 3 (by decide)
  generalize hg0 : L.getD 0 0 = l0 at *
  generalize hg1 : L.getD 1 0 = l1 at *
  generalize hg2 : L.getD 2 0 = l2 at *
  generalize hg3 : L.getD 3 0 = l3 at *
  have hg : (fun i => L.getD i 0) = fun i => L.getD i 0 := rfl
  have hb := World.block_lt_of_cell? _ _ k0
  have HO := Lib.hid (show ofN 3 (fun i => L.getD i 0) = ⟨3, wrap64 (l0), 0, wrap64 (l1), wrap64 (l2), 0, 0, l3 % 256, 0, 0, 0⟩ by
    unfold ofN
    simp only [hg0, hg1, hg2, hg3])
  rw [HO.out]
  clear hc hg hg0 hg1 hg2 hg3
  go_enter Tryd.func38, Tryd.ntmps38
  go_wp2_with (fail)
  refine bodyPost_ret (v := .agg _) ?_ rfl ⟨rfl, ((Below.refl _ _).alloc (Nat.le_refl _) _).alloc (by simp) _⟩
  rw [results_cell1 rfl]
  go_simp
  done
set_option maxRecDepth 100000 in
set_option maxHeartbeats 4000000 in
theorem of4_any {base : Nat} {L : List Nat} {v : Value} {w : World} (h : NumAt base L v w) (hL : L.length = 3) (a : Option Addr) (m d : Nat) : Calls Tryd.prog 38 #[.int .u8 4, v, .slice a m d] w (OfPost (ofN 4 fun i => L.getD i 0) a m d w) := by
  obtain ⟨b, c, rfl, hc⟩ := h.at_ (by omega)
  rw [hL] at hc ⊢
  have k0 := hc 0 (by decide)
  have k1 := hc 1 (by decide)
  have k2 := hc 2 (by decide)
  generalize hg0 : L.getD 0 0 = l0 at *
  generalize hg1 : L.getD 1 0 = l1 at *
  generalize hg2 : L.getD 2 0 = l2 at *
  have hg : (fun i => L.getD i 0) = fun i => L.getD i 0 := rfl
  have hb := World.block_lt_of_cell? _ _ k0
  have HO := Lib.hid (show ofN 4 (fun i => L.getD i 0) = ⟨4, wrap64 (l0), 0, wrap64 (l1), wrap64 (l2), 0, 0, 0, 0, 0, 0⟩ by
    unfold ofN
    simp only [hg0, hg1, hg2])
  rw [HO.out]
  clear hc hg hg0 hg1 hg2
  go_enter Tryd.func38, Tryd.ntmps38
  go_wp2_with (fail)
  refine bodyPost_ret (v := .agg _) ?_ rfl ⟨rfl, ((Below.refl _ _).alloc (Nat.le_refl _) _).alloc (by simp) _⟩
  rw [results_cell1 rfl]
  go_simp
  done
set_option maxRecDepth 100000 in
set_option maxHeartbeats 4000000 in
theorem of5_any {base : Nat} {L : List Nat} {v : Value} {w : World} (h : NumAt base L v w) (hL : L.length = 4) (a : Option Addr) (m d : Nat) : Calls Tryd.prog 38 #[.int .u8 5, v, .slice a m d] w (OfPost (ofN 5 fun i => L.getD i 0) a m d w) := by
  obtain ⟨b, c, rfl, hc⟩ := h.at_ (by omega)
  rw [hL] at hc ⊢
  have k0 := hc 0 (by decide)
  have k1 := hc 1 (by decide)
  have k2 := hc 2 (by decide)
  have k3 := hc 3 (by decide)
  generalize hg0 : L.getD 0 0 = l0 at *
  generalize hg1 : L.getD 1 0 = l1 at *
  generalize hg2 : L.getD 2 0 = l2 at *
  generalize hg3 : L.getD 3 0 = l3 at *
  have hg : (fun i => L.getD i 0) = fun i => L.getD i 0 := rfl
  have hb := World.block_lt_of_cell? _ _ k0
  have HO := Lib.hid (show ofN 5 (fun i => L.getD i 0) = ⟨5, wrap64 (l0), 0, wrap64 (l1), wrap64 (l2), 0, 0, l3 % 256, 0, 0, 0⟩ by
    unfold ofN
    simp only [hg0, hg1, hg2, hg3])
  rw [HO.out]
  clear hc hg hg0 hg1 hg2 hg3
  go_enter Tryd.func38, Tryd.ntmps38
  go_wp2_with (fail)
  refine bodyPost_ret (v := .agg _) ?_ rfl ⟨rfl, ((Below.refl _ _).alloc (Nat.le_refl _) _).alloc (by simp) _⟩
  rw [results_cell1 rfl]
  go_simp
  done
set_option maxRecDepth 100000 in
set_option maxHeartbeats 4000000 in
theorem of6_any {base : Nat} {L : List Nat} {v : Value} {w : World} (h : NumAt base L v w) (hL : L.length = 3) (a : Option Addr) (m d : Nat) : Calls Tryd.prog 38 #[.int .u8 6, v, .slice a m d] w (OfPost (ofN 6 fun i => L.getD i 0) a m d w) := by
  obtain ⟨b, c, rfl, hc⟩ := h.at_ (by omega)
  rw [hL] at hc ⊢
  have k0 := hc 0 (by decide)
  have k1 := hc 1 (by decide)
  have k2 := hc 2 (by decide)
  generalize hg0 : L.getD 0 0 = l0 at *
  generalize hg1 : L.getD 1 0 = l1 at *
  generalize hg2 : L.getD 2 0 = l2 at *
  have hg : (fun i => L.getD i 0) = fun i => L.getD i 0 := rfl
  have hb := World.block_lt_of_cell? _ _ k0
  have HO := Lib.hid (show ofN 6 (fun i => L.getD i 0) = ⟨6, wrap64 (l0), 0, wrap64 (l1), wrap64 (l2), 0, 0, 0, 0, 0, 0⟩ by
    unfold ofN
    simp only [hg0, hg1, hg2])
  rw [HO.out]
  clear hc hg hg0 hg1 hg2
  go_enter Tryd.func38, Tryd.ntmps38
  go_wp2_with (fail)
  refine bodyPost_ret (v := .agg _) ?_ rfl ⟨rfl, ((Below.refl _ _).alloc (Nat.le_refl _) _).alloc (by simp) _⟩
  rw [results_cell1 rfl]
  go_simp
  done
set_option maxRecDepth 100000 in
set_option maxHeartbeats 4000000 in
theorem of7_any {base : Nat} {L : List Nat} {v : Value} {w : World} (h : NumAt base L v w) (hL : L.length = 3) (a : Option Addr) (m d : Nat) : Calls Tryd.prog 38 #[.int .u8 7, v, .slice a m d] w (OfPost (ofN 7 fun i => L.getD i 0) a m d w) := by
  obtain ⟨b, c, rfl, hc⟩ := h.at_ (by omega)
  rw [hL] at hc ⊢
  have k0 := hc 0 (by decide)
  have k1 := hc 1 (by decide)
  have k2 := hc 2 (by decide)
  generalize hg0 : L.getD 0 0 = l0 at *
  generalize hg1 : L.getD 1 0 = l1 at *
  generalize hg2 : L.getD 2 0 = l2 at *
  have hg : (fun i => L.getD i 0) = fun i => L.getD i 0 := rfl
  have hb := World.block_lt_of_cell? _ _ k0
  have HO := Lib.hid (show ofN 7 (fun i => L.getD i 0) = ⟨7, wrap64 (l0), 0, wrap64 (l1), wrap64 (l2), 0, 0, 0, 0, 0, 0⟩ by
    unfold ofN
    simp only [hg0, hg1, hg2])
  rw [HO.out]
  clear hc hg hg0 hg1 hg2
  go_enter Tryd.func38, Tryd.ntmps38
  go_wp2_with (fail)
  refine bodyPost_ret (v := .agg _) ?_ rfl ⟨rfl, ((Below.refl _ _).alloc (Nat.le_refl _) _).alloc (by simp) _⟩
  rw [results_cell1 rfl]
  go_simp
  done
set_option maxRecDepth 100000 in
set_option maxHeartbeats 4000000 in
theorem of8_any {base : Nat} {L : List Nat} {v : Value} {w : World} (h : NumAt base L v w) (hL : L.length = 3) (a : Option Addr) (m d : Nat) : Calls Tryd.prog 38 #[.int .u8 8, v, .slice a m d] w (OfPost (ofN 8 fun i => L.getD i 0) a m d w) := by
  obtain ⟨b, c, rfl, hc⟩ := h.at_ (by omega)
  rw [hL] at hc ⊢
  have k0 := hc 0 (by decide)
  have k1 := hc 1 (by decide)
  have k2 := hc 2 (by decide)
  generalize hg0 : L.getD 0 0 = l0 at *
  generalize hg1 : L.getD 1 0 = l1 at *
  generalize hg2 : L.getD 2 0 = l2 at *
  have hg : (fun i => L.getD i 0) = fun i => L.getD i 0 := rfl
  have hb := World.block_lt_of_cell? _ _ k0
  have HO := Lib.hid (show ofN 8 (fun i => L.getD i 0) = ⟨8, wrap64 (l0), 0, 0, 0, wrap64 (l1), wrap64 (l2), 0, 0, 0, 0⟩ by
    unfold ofN
    simp only [hg0, hg1, hg2])
  rw [HO.out]
  clear hc hg hg0 hg1 hg2
  go_enter Tryd.func38, Tryd.ntmps38
  go_wp2_with (fail)
  refine bodyPost_ret (v := .agg _) ?_ rfl ⟨rfl, ((Below.refl _ _).alloc (Nat.le_refl _) _).alloc (by simp) _⟩
  rw [results_cell1 rfl]
  go_simp
  done
set_option maxRecDepth 100000 in
set_option maxHeartbeats 4000000 in
theorem of9_any {base : Nat} {L : List Nat} {v : Value} {w : World} (h : NumAt base L v w) (hL : L.length = 2) (a : Option Addr) (m d : Nat) : Calls Tryd.prog 38 #[.int .u8 9, v, .slice a m d] w (OfPost (ofN 9 fun i => L.getD i 0) a m d w) := by
  obtain ⟨b, c, rfl, hc⟩ := h.at_ (by omega)
  rw [hL] at hc ⊢
  have k0 := hc 0 (by decide)
  have k1 := hc 1 (by decide)
  generalize hg0 : L.getD 0 0 = l0 at *
  generalize hg1 : L.getD 1 0 = l1 at *
  have hg : (fun i => L.getD i 0) = fun i => L.getD i 0 := rfl
  have hb := World.block_lt_of_cell? _ _ k0
  have HO := Lib.hid (show ofN 9 (fun i => L.getD i 0) = ⟨9, wrap64 (l0), 0, 0, 0, wrap64 (l1), 0, 0, 0, 0, 0⟩ by
    unfold ofN
    simp only [hg0, hg1])
  rw [HO.out]
  clear hc hg hg0 hg1
  go_enter Tryd.func38, Tryd.ntmps38
  go_wp2_with (fail)
  refine bodyPost_ret (v := .agg _) ?_ rfl ⟨rfl, ((Below.refl _ _).alloc (Nat.le_refl _) _).alloc (by simp) _⟩
  rw [results_cell1 rfl]
  go_simp
  done
set_option maxRecDepth 100000 in
set_option maxHeartbeats 4000000 in
theorem of10_any {base : Nat} {L : List Nat} {v : Value} {w : World} (h : NumAt base L v w) (hL : L.length = 1) (a : Option Addr) (m d : Nat) : Calls Tryd.prog 38 #[.int .u8 10, v, .slice a m d] w (OfPost (ofN 10 fun i => L.getD i 0) a m d w) := by
  obtain ⟨b, c, rfl, hc⟩ := h.at_ (by omega)
  rw [hL] at hc ⊢
  have k0 := hc 0 (by decide)
  generalize hg0 : L.getD 0 0 = l0 at *
  have hg : (fun i => L.getD i 0) = fun i => L.getD i 0 := rfl
  have hb := World.block_lt_of_cell? _ _ k0
  have HO := Lib.hid (show ofN 10 (fun i => L.getD i 0) = ⟨10, 0, 0, 0, 0, 0, wrap64 (l0), 0, 0, 0, 0⟩ by
    unfold ofN
    simp only [hg0])
  rw [HO.out]
  clear hc hg hg0
  go_enter Tryd.func38, Tryd.ntmps38
  go_wp2_with (fail)
  refine bodyPost_ret (v := .agg _) ?_ rfl ⟨rfl, ((Below.refl _ _).alloc (Nat.le_refl _) _).alloc (by simp) _⟩
  rw [results_cell1 rfl]
  go_simp
  done
set_option maxRecDepth 100000 in
set_option maxHeartbeats 4000000 in
theorem of11_any {base : Nat} {L : List Nat} {v : Value} {w : World} (h : NumAt base L v w) (hL : L.length = 1) (a : Option Addr) (m d : Nat) : Calls Tryd.prog 38 #[.int .u8 11, v, .slice a m d] w (OfPost (ofN 11 fun i => L.getD i 0) a m d w) := by
  obtain ⟨b, c, rfl, hc⟩ := h.at_ (by omega)
  rw [hL] at hc ⊢
  have k0 := hc 0 (by decide)
  generalize hg0 : L.getD 0 0 = l0 at *
  have hg : (fun i => L.getD i 0) = fun i => L.getD i 0 := rfl
  have hb := World.block_lt_of_cell? _ _ k0
  have HO := Lib.hid (show ofN 11 (fun i => L.getD i 0) = ⟨11, 0, 0, 0, 0, 0, 0, 0, 0, 0, l0⟩ by
    unfold ofN
    simp only [hg0])
  rw [HO.out]
  clear hc hg hg0
  go_enter Tryd.func38, Tryd.ntmps38
  go_wp2_with (fail)
  refine bodyPost_ret (v := .agg _) ?_ rfl ⟨rfl, ((Below.refl _ _).alloc (Nat.le_refl _) _).alloc (by simp) _⟩
  rw [results_cell1 rfl]
  go_simp
  done
set_option maxRecDepth 100000 in
set_option maxHeartbeats 4000000 in
theorem of12_any {base : Nat} {L : List Nat} {v : Value} {w : World} (h : NumAt base L v w) (hL : L.length = 3) (a : Option Addr) (m d : Nat) : Calls Tryd.prog 38 #[.int .u8 12, v, .slice a m d] w (OfPost (ofN 12 fun i => L.getD i 0) a m d w) := by
  obtain ⟨b, c, rfl, hc⟩ := h.at_ (by omega)
  rw [hL] at hc ⊢
  have k0 := hc 0 (by decide)
  have k1 := hc 1 (by decide)
  have k2 := hc 2 (by decide)
  generalize hg0 : L.getD 0 0 = l0 at *
  generalize hg1 : L.getD 1 0 = l1 at *
  generalize hg2 : L.getD 2 0 = l2 at *
  have hg : (fun i => L.getD i 0) = fun i => L.getD i 0 := rfl
  have hb := World.block_lt_of_cell? _ _ k0
  have HO := Lib.hid (show ofN 12 (fun i => L.getD i 0) = ⟨12, 0, 0, 0, 0, wrap64 (l1), wrap64 (l2), 0, 0, 0, l0⟩ by
    unfold ofN
    simp only [hg0, hg1, hg2])
  rw [HO.out]
  clear hc hg hg0 hg1 hg2
  go_enter Tryd.func38, Tryd.ntmps38
  go_wp2_with (fail)
  refine bodyPost_ret (v := .agg _) ?_ rfl ⟨rfl, ((Below.refl _ _).alloc (Nat.le_refl _) _).alloc (by simp) _⟩
  rw [results_cell1 rfl]
  go_simp
  done
set_option maxRecDepth 100000 in
set_option maxHeartbeats 4000000 in
theorem of13_any {base : Nat} {L : List Nat} {v : Value} {w : World} (h : NumAt base L v w) (hL : L.length = 2) (a : Option Addr) (m d : Nat) : Calls Tryd.prog 38 #[.int .u8 13, v, .slice a m d] w (OfPost (ofN 13 fun i => L.getD i 0) a m d w) := by
  obtain ⟨b, c, rfl, hc⟩ := h.at_ (by omega)
  rw [hL] at hc ⊢
  have k0 := hc 0 (by decide)
  have k1 := hc 1 (by decide)
  generalize hg0 : L.getD 0 0 = l0 at *
  generalize hg1 : L.getD 1 0 = l1 at *
  have hg : (fun i => L.getD i 0) = fun i => L.getD i 0 := rfl
  have hb := World.block_lt_of_cell? _ _ k0
  have HO := Lib.hid (show ofN 13 (fun i => L.getD i 0) = ⟨13, 0, 0, 0, 0, wrap64 (l1), 0, 0, 0, 0, l0⟩ by
    unfold ofN
    simp only [hg0, hg1])
  rw [HO.out]
  clear hc hg hg0 hg1
  go_enter Tryd.func38, Tryd.ntmps38
  go_wp2_with (fail)
  refine bodyPost_ret (v := .agg _) ?_ rfl ⟨rfl, ((Below.refl _ _).alloc (Nat.le_refl _) _).alloc (by simp) _⟩
  rw [results_cell1 rfl]
  go_simp
  done
def cellC (l : List Value) (i : Nat) : Value := l.getD i undef
theorem rowC (w : World) (l : List Value) (t : TypeId) : RowAt (w.alloc (.cells l.toArray t)) w.heap.size l.length (cellC l) := RowAt.new w _ _ _ _ fun i hi => by
  rw [List.getElem?_toArray, List.getElem?_eq_getElem hi]
  unfold cellC
  rw [List.getD_eq_getElem?_getD, List.getElem?_eq_getElem hi]
  rfl
theorem sizeCall : (Tryd.prog.info? 29).map (·.size) = some 12 := by kernel_rfl
theorem load_call {W : World} {b : Nat} {l : List Value} (R : RowAt W b 12 (cellC l)) (hl : l.length = 12) : (loadVar 29 ⟨b, 0, none⟩).run Tryd.prog W = .ok (.agg l.toArray) W :=
  run_loadVar_mid (P := Tryd.prog) W b 0 29 l _ (fun j v hj => by
    have hlt := (List.getElem?_eq_some_iff.1 hj).1
    have h5 := R.cell j (by omega)
    rw [Nat.zero_add]
    rw [h5]
    unfold cellC
    rw [List.getD_eq_getElem?_getD, hj]
    rfl) Tryd.underlying29 rfl (by rw [hl]; exact sizeCall)
theorem results_ptr {fn : Func} {p : Tmp} {ty : TypeId} {tmps : Array Value} {P : Program} {w : World} {v : Value} {ad : Addr} (h : fn.results = #[.cell p ty]) (hp : tmps.getD p undef = .pointer (some ad)) (hl : (loadVar ty ad).run P w = .ok v w) : (results fn tmps).run P w = .ok v w := by
  rw [results_cell1 h, hp]
  simp [asAddr, Result.andThen, hl]
theorem sizePol : (Tryd.prog.info? 25).map (·.size) = some 2 := by kernel_rfl
set_option maxRecDepth 100000 in
set_option maxHeartbeats 4000000 in
theorem of14_any {base : Nat} {L : List Nat} {v : Value} {w : World} (h : NumAt base L v w) (hL : L.length = 3) (a : Option Addr) (m d : Nat) : Calls Tryd.prog 38 #[.int .u8 14, v, .slice a m d] w (OfPost (ofN 14 fun i => L.getD i 0) a m d w) := by
  obtain ⟨b, c, rfl, hc⟩ := h.at_ (by omega)
  rw [hL] at hc ⊢
  have k0 := hc 0 (by decide)
  have k1 := hc 1 (by decide)
  have k2 := hc 2 (by decide)
  generalize hg0 : L.getD 0 0 = l0 at *
  generalize hg1 : L.getD 1 0 = l1 at *
  generalize hg2 : L.getD 2 0 = l2 at *
  have hg : (fun i => L.getD i 0) = fun i => L.getD i 0 := rfl
  have hb := World.block_lt_of_cell? _ _ k0
  have HO := Lib.hid (show ofN 14 (fun i => L.getD i 0) = ⟨14, wrap64 (l0), 0, 0, 0, 0, 0, 0, l1 % 256, l2 % 256, 0⟩ by
    unfold ofN
    simp only [hg0, hg1, hg2])
  rw [HO.out]
  clear hc hg hg0 hg1 hg2
  go_enter Tryd.func38, Tryd.ntmps38
  obtain ⟨w1, hw1⟩ : ∃ w1, w1 = (w.alloc (.cells #[.int .u8 0, .int .i64 0, .int .i64 0, .int .i64 0, .int .i64 0, .int .i64 0, .int .i64 0, .int .u8 0, .int .u8 0, .int .u8 0, .int .u64 0, .slice none 0 0] 29)).alloc (.cells #[.int .u8 14, .int .i64 (wrap64 l0), .int .i64 0, .int .i64 0, .int .i64 0, .int .i64 0, .int .i64 0, .int .u8 0, .int .u8 0, .int .u8 0, .int .u64 0, .slice none 0 0] 29) := ⟨_, rfl⟩
  have HB1 := Lib.hid (show Below w.heap.size w w1 from by rw [hw1]; exact ((Below.refl _ _).alloc (Nat.le_refl _) _).alloc (by simp) _)
  have HX := Lib.hid (show RowAt w1 (w.heap.size + 1) 12 (cellC [.int .u8 14, .int .i64 (wrap64 l0), .int .i64 0, .int .i64 0, .int .i64 0, .int .i64 0, .int .i64 0, .int .u8 0, .int .u8 0, .int .u8 0, .int .u64 0, .slice none 0 0]) from by
    rw [hw1]
    have h5 := rowC (w.alloc (.cells #[.int .u8 0, .int .i64 0, .int .i64 0, .int .i64 0, .int .i64 0, .int .i64 0, .int .i64 0, .int .u8 0, .int .u8 0, .int .u8 0, .int .u64 0, .slice none 0 0] 29)) [.int .u8 14, .int .i64 (wrap64 l0), .int .i64 0, .int .i64 0, .int .i64 0, .int .i64 0, .int .i64 0, .int .u8 0, .int .u8 0, .int .u8 0, .int .u64 0, .slice none 0 0] 29
    rw [World.size_alloc] at h5
    exact h5)
  have HR := Lib.hid (show RowAt w1 w.heap.size 12 (cellC [.int .u8 0, .int .i64 0, .int .i64 0, .int .i64 0, .int .i64 0, .int .i64 0, .int .i64 0, .int .u8 0, .int .u8 0, .int .u8 0, .int .u64 0, .slice none 0 0]) from by
    rw [hw1]
    exact (rowC w [.int .u8 0, .int .i64 0, .int .i64 0, .int .i64 0, .int .i64 0, .int .i64 0, .int .i64 0, .int .u8 0, .int .u8 0, .int .u8 0, .int .u64 0, .slice none 0 0] 29).alloc _)
  have K1 := Lib.hid (show w1.cell? ⟨b, 1, none⟩ = some (.int .u64 ((l1 : Nat) : Int)) from (HB1.out.cell (p := ⟨b, 1, none⟩) hb).trans k1)
  have K2 := Lib.hid (show w1.cell? ⟨b, 2, none⟩ = some (.int .u64 ((l2 : Nat) : Int)) from (HB1.out.cell (p := ⟨b, 2, none⟩) hb).trans k2)
  go_wp2_with (fail)
  rw [← hw1]
  clear hw1
  have M1 := Lib.hid (show ∀ W, W = w1.drew → (loadVar 26 ⟨b, 1, none⟩).run Tryd.prog W = .ok (.int .u64 ((l1 : Nat) : Int)) W from fun W hW => by
    subst hW
    exact run_loadVar_cell (fun _ => by kernel_rfl) K1.out)
  have M2 := Lib.hid (show ∀ W, W = w1.drew → (loadVar 26 ⟨b, 2, none⟩).run Tryd.prog W = .ok (.int .u64 ((l2 : Nat) : Int)) W from fun W hW => by
    subst hW
    exact run_loadVar_cell (fun _ => by kernel_rfl) K2.out)
  have V1 := Lib.hid (show ∀ W, W = w1.drew → (convert 26 23 (.int .u64 ((l1 : Nat) : Int))).run Tryd.prog W = .ok (.int .u8 ((l1 % 256 : Nat) : Int)) W from fun W _ => by
    go_simp
    rw [IntKind.wrap_u8'])
  have V2 := Lib.hid (show ∀ W, W = w1.drew → (convert 26 5 (.int .u64 ((l2 : Nat) : Int))).run Tryd.prog W = .ok (.int .u8 ((l2 % 256 : Nat) : Int)) W from fun W _ => by
    go_simp
    rw [IntKind.wrap_u8'])
  obtain ⟨W2, hW2⟩ : ∃ W2, W2 = w1.drew.setCells (w.heap.size + 1) 8 [.int .u8 ((l1 % 256 : Nat) : Int), .int .u8 ((l2 % 256 : Nat) : Int)] := ⟨_, rfl⟩
  have ho2 := Only.setCells (S := fun k => k = w.heap.size + 1) (b := w.heap.size + 1) rfl [.int .u8 ((l1 % 256 : Nat) : Int), .int .u8 ((l2 % 256 : Nat) : Int)] 8 w1.drew
  rw [← hW2] at ho2
  have HTH := Lib.hid (show w1.drew.there (w.heap.size + 1) 8 2 from (HX.out.later (below_drewN (Below.refl _ _) 1)).there 8 2 (by decide))
  have HX2 := Lib.hid (show RowAt W2 (w.heap.size + 1) 12 (cellC [.int .u8 14, .int .i64 (wrap64 l0), .int .i64 0, .int .i64 0, .int .i64 0, .int .i64 0, .int .i64 0, .int .u8 0, .int .u8 ((l1 % 256 : Nat) : Int), .int .u8 ((l2 % 256 : Nat) : Int), .int .u64 0, .slice none 0 0]) from by
    rw [hW2]
    refine (RowAt.setCells [.int .u8 ((l1 % 256 : Nat) : Int), .int .u8 ((l2 % 256 : Nat) : Int)] 8 w1.drew _ (HX.out.later (below_drewN (Below.refl _ _) 1))).ext (fun i hi => ?_)
    match i, hi with
    | 0, _ | 1, _ | 2, _ | 3, _ | 4, _ | 5, _ | 6, _ | 7, _ | 8, _ | 9, _ | 10, _ | 11, _ => rfl)
  have HR2 := Lib.hid ((HR.out.later (below_drewN (Below.refl _ _) 1)).only ho2 (by omega))
  have HB2 := Lib.hid (ho2.below (below_drewN HB1.out 1) HB1.out.size (fun k hk => by omega))
  have HW2 := Lib.hid hW2
  clear ho2 hW2 HX HR K1 K2
  refine wp_region_lexF (fun W => W = w1.drew) [(0, false), (1, false), (2, false), (3, false), (4, false), (5, false), (6, false), (7, false), (8, false), (9, false)] 10 (by kernel_rfl) (by kernel_rfl) rfl (by kernel_rfl) rfl ?_
  intro V0 hV0 hS0
  clear hS0
  refine lexH_yieldE rfl rfl ?_
  apply Exists.intro
  refine ⟨fun W hW => ?_, ?_⟩
  focus (go_simp; exact rfl)
  simp only [List.getElem_toArray, List.getElem_cons_zero, Act.put, List.setIfInBounds_toArray, List.set_cons_zero, List.set_cons_succ]
  refine lexH_yieldE rfl rfl ?_
  apply Exists.intro
  refine ⟨fun W hW => ?_, ?_⟩
  focus (go_simp; exact rfl)
  simp only [List.getElem_toArray, List.getElem_cons_succ, List.getElem_cons_zero, Act.put, List.setIfInBounds_toArray, List.set_cons_zero, List.set_cons_succ]
  refine lexH_load rfl rfl _ _ rfl rfl M1.out ?_
  simp only [List.getElem_toArray, List.getElem_cons_succ, List.getElem_cons_zero, Act.put, List.setIfInBounds_toArray, List.set_cons_zero, List.set_cons_succ]
  refine lexH_conv rfl rfl _ _ _ rfl rfl V1.out ?_
  simp only [List.getElem_toArray, List.getElem_cons_succ, List.getElem_cons_zero, Act.put, List.setIfInBounds_toArray, List.set_cons_zero, List.set_cons_succ]
  refine lexH_yieldE rfl rfl ?_
  apply Exists.intro
  refine ⟨fun W hW => ?_, ?_⟩
  focus (go_simp; exact rfl)
  simp only [List.getElem_toArray, List.getElem_cons_succ, List.getElem_cons_zero, Act.put, List.setIfInBounds_toArray, List.set_cons_zero, List.set_cons_succ]
  refine lexH_yieldE rfl rfl ?_
  apply Exists.intro
  refine ⟨fun W hW => ?_, ?_⟩
  focus (go_simp; exact rfl)
  simp only [List.getElem_toArray, List.getElem_cons_succ, List.getElem_cons_zero, Act.put, List.setIfInBounds_toArray, List.set_cons_zero, List.set_cons_succ]
  refine lexH_load rfl rfl _ _ rfl rfl M2.out ?_
  simp only [List.getElem_toArray, List.getElem_cons_succ, List.getElem_cons_zero, Act.put, List.setIfInBounds_toArray, List.set_cons_zero, List.set_cons_succ]
  refine lexH_conv rfl rfl _ _ _ rfl rfl V2.out ?_
  simp only [List.getElem_toArray, List.getElem_cons_succ, List.getElem_cons_zero, Act.put, List.setIfInBounds_toArray, List.set_cons_zero, List.set_cons_succ]
  refine lexH_yieldE rfl rfl ?_
  apply Exists.intro
  refine ⟨fun W hW => ?_, ?_⟩
  focus (go_simp; exact rfl)
  simp only [List.getElem_toArray, List.getElem_cons_succ, List.getElem_cons_zero, Act.put, List.setIfInBounds_toArray, List.set_cons_zero, List.set_cons_succ]
  refine lexH_yieldE rfl rfl ?_
  apply Exists.intro
  refine ⟨fun W hW => ?_, ?_⟩
  focus (go_simp; exact rfl)
  simp only [List.getElem_toArray, List.getElem_cons_succ, List.getElem_cons_zero, Act.put, List.setIfInBounds_toArray, List.set_cons_zero, List.set_cons_succ]
  refine lexH_last rfl rfl ?_
  rw [hV0]
  refine wp_store_mid _ _ _ rfl (w.heap.size + 1) 8 #[.int .u8 ((l1 % 256 : Nat) : Int), .int .u8 ((l2 % 256 : Nat) : Int)] rfl rfl HTH.out sizePol (by simp [Value.oneCell']) ?_
  rw [show w1.drew.setCells (w.heap.size + 1) 8 (#[Value.int .u8 ((l1 % 256 : Nat) : Int), Value.int .u8 ((l2 % 256 : Nat) : Int)] : Array Value).toList = W2 from HW2.out.symm]
  clear HW2 HTH M1 M2 V1 V2 hV0
  have x11 : W2.cell? ⟨w.heap.size + 1, 11, none⟩ = some (.slice none 0 0) := HX2.out.cell 11 (by decide)
  have f11 := HX2.out.frozen 11
  obtain ⟨W3, hW3⟩ : ∃ W3, W3 = W2.setCell ⟨w.heap.size + 1, 11, none⟩ (.slice a m d) := ⟨_, rfl⟩
  have ho3 := Only.setCell (S := fun k => k = w.heap.size + 1) W2 ⟨w.heap.size + 1, 11, none⟩ rfl (.slice a m d)
  rw [← hW3] at ho3
  have HX3 := Lib.hid (show RowAt W3 (w.heap.size + 1) 12 (cellC [.int .u8 14, .int .i64 (wrap64 l0), .int .i64 0, .int .i64 0, .int .i64 0, .int .i64 0, .int .i64 0, .int .u8 0, .int .u8 ((l1 % 256 : Nat) : Int), .int .u8 ((l2 % 256 : Nat) : Int), .int .u64 0, .slice a m d]) from by
    rw [hW3]
    refine (HX2.out.setCell 11 (.slice a m d)).ext (fun i hi => ?_)
    match i, hi with
    | 0, _ | 1, _ | 2, _ | 3, _ | 4, _ | 5, _ | 6, _ | 7, _ | 8, _ | 9, _ | 10, _ | 11, _ => rfl)
  have HR3 := Lib.hid (HR2.out.only ho3 (by omega))
  have HB3 := Lib.hid (ho3.below HB2.out HB2.out.size (fun k hk => by omega))
  have HLD := Lib.hid (load_call HX3.out rfl)
  have y0 : W2.cell? ⟨w.heap.size + 1, 0, none⟩ = some (.int .u8 14) := HX2.out.cell 0 (by decide)
  have y1 : W2.cell? ⟨w.heap.size + 1, 1, none⟩ = some (.int .i64 (wrap64 l0)) := HX2.out.cell 1 (by decide)
  have y2 : W2.cell? ⟨w.heap.size + 1, 2, none⟩ = some (.int .i64 0) := HX2.out.cell 2 (by decide)
  have y3 : W2.cell? ⟨w.heap.size + 1, 3, none⟩ = some (.int .i64 0) := HX2.out.cell 3 (by decide)
  have y4 : W2.cell? ⟨w.heap.size + 1, 4, none⟩ = some (.int .i64 0) := HX2.out.cell 4 (by decide)
  have y5 : W2.cell? ⟨w.heap.size + 1, 5, none⟩ = some (.int .i64 0) := HX2.out.cell 5 (by decide)
  have y6 : W2.cell? ⟨w.heap.size + 1, 6, none⟩ = some (.int .i64 0) := HX2.out.cell 6 (by decide)
  have y7 : W2.cell? ⟨w.heap.size + 1, 7, none⟩ = some (.int .u8 0) := HX2.out.cell 7 (by decide)
  have y8 : W2.cell? ⟨w.heap.size + 1, 8, none⟩ = some (.int .u8 ((l1 % 256 : Nat) : Int)) := HX2.out.cell 8 (by decide)
  have y9 : W2.cell? ⟨w.heap.size + 1, 9, none⟩ = some (.int .u8 ((l2 % 256 : Nat) : Int)) := HX2.out.cell 9 (by decide)
  have y10 : W2.cell? ⟨w.heap.size + 1, 10, none⟩ = some (.int .u64 0) := HX2.out.cell 10 (by decide)
  have HW3 := Lib.hid hW3
  clear ho3 hW3 HX2 HR2 HB2
  go_wp2_with (first | (refine wpList_store_mid rfl 29 _ _ rfl w.heap.size 0 #[.int .u8 14, .int .i64 (wrap64 l0), .int .i64 0, .int .i64 0, .int .i64 0, .int .i64 0, .int .i64 0, .int .u8 0, .int .u8 ((l1 % 256 : Nat) : Int), .int .u8 ((l2 % 256 : Nat) : Int), .int .u64 0, .slice a m d] rfl rfl (by rw [← HW3.out]; exact HR3.out.there 0 12 (by decide)) sizeCall (by simp [Value.oneCell']) ?_) | fail)
  rw [← HW3.out]
  have ho4 := Only.setCells (S := fun k => k = w.heap.size) (b := w.heap.size) rfl [.int .u8 14, .int .i64 (wrap64 l0), .int .i64 0, .int .i64 0, .int .i64 0, .int .i64 0, .int .i64 0, .int .u8 0, .int .u8 ((l1 % 256 : Nat) : Int), .int .u8 ((l2 % 256 : Nat) : Int), .int .u64 0, .slice a m d] 0 W3
  have HL4 := load_call (W := W3.setCells w.heap.size 0 [.int .u8 14, .int .i64 (wrap64 l0), .int .i64 0, .int .i64 0, .int .i64 0, .int .i64 0, .int .i64 0, .int .u8 0, .int .u8 ((l1 % 256 : Nat) : Int), .int .u8 ((l2 % 256 : Nat) : Int), .int .u64 0, .slice a m d]) (l := [.int .u8 14, .int .i64 (wrap64 l0), .int .i64 0, .int .i64 0, .int .i64 0, .int .i64 0, .int .i64 0, .int .u8 0, .int .u8 ((l1 % 256 : Nat) : Int), .int .u8 ((l2 % 256 : Nat) : Int), .int .u64 0, .slice a m d]) ((RowAt.setCells [.int .u8 14, .int .i64 (wrap64 l0), .int .i64 0, .int .i64 0, .int .i64 0, .int .i64 0, .int .i64 0, .int .u8 0, .int .u8 ((l1 % 256 : Nat) : Int), .int .u8 ((l2 % 256 : Nat) : Int), .int .u64 0, .slice a m d] 0 W3 _ HR3.out).ext (fun i hi => by
    match i, hi with
    | 0, _ | 1, _ | 2, _ | 3, _ | 4, _ | 5, _ | 6, _ | 7, _ | 8, _ | 9, _ | 10, _ | 11, _ => rfl)) rfl
  have HB4 := ho4.below HB3.out HB3.out.size (fun k hk => by omega)
  refine bodyPost_ret (v := .agg _) ?_ rfl ⟨rfl, HB4⟩
  exact results_ptr rfl rfl HL4
set_option maxRecDepth 100000 in
set_option maxHeartbeats 4000000 in
theorem of15_any {base : Nat} {L : List Nat} {v : Value} {w : World} (h : NumAt base L v w) (hL : L.length = 5) (a : Option Addr) (m d : Nat) : Calls Tryd.prog 38 #[.int .u8 15, v, .slice a m d] w (OfPost (ofN 15 fun i => L.getD i 0) a m d w) := by
  obtain ⟨b, c, rfl, hc⟩ := h.at_ (by omega)
  rw [hL] at hc ⊢
  have k0 := hc 0 (by decide)
  have k1 := hc 1 (by decide)
  have k2 := hc 2 (by decide)
  have k3 := hc 3 (by decide)
  have k4 := hc 4 (by decide)
  generalize hg0 : L.getD 0 0 = l0 at *
  generalize hg1 : L.getD 1 0 = l1 at *
  generalize hg2 : L.getD 2 0 = l2 at *
  generalize hg3 : L.getD 3 0 = l3 at *
  generalize hg4 : L.getD 4 0 = l4 at *
  have hg : (fun i => L.getD i 0) = fun i => L.getD i 0 := rfl
  have hb := World.block_lt_of_cell? _ _ k0
  have HO := Lib.hid (show ofN 15 (fun i => L.getD i 0) = ⟨15, wrap64 (l0), 0, wrap64 (l1), wrap64 (l2), 0, 0, 0, l3 % 256, l4 % 256, 0⟩ by
    unfold ofN
    simp only [hg0, hg1, hg2, hg3, hg4])
  rw [HO.out]
  clear hc hg hg0 hg1 hg2 hg3 hg4
  go_enter Tryd.func38, Tryd.ntmps38
  obtain ⟨w1, hw1⟩ : ∃ w1, w1 = (w.alloc (.cells #[.int .u8 0, .int .i64 0, .int .i64 0, .int .i64 0, .int .i64 0, .int .i64 0, .int .i64 0, .int .u8 0, .int .u8 0, .int .u8 0, .int .u64 0, .slice none 0 0] 29)).alloc (.cells #[.int .u8 15, .int .i64 (wrap64 l0), .int .i64 0, .int .i64 (wrap64 l1), .int .i64 (wrap64 l2), .int .i64 0, .int .i64 0, .int .u8 0, .int .u8 0, .int .u8 0, .int .u64 0, .slice none 0 0] 29) := ⟨_, rfl⟩
  have HB1 := Lib.hid (show Below w.heap.size w w1 from by rw [hw1]; exact ((Below.refl _ _).alloc (Nat.le_refl _) _).alloc (by simp) _)
  have HX := Lib.hid (show RowAt w1 (w.heap.size + 1) 12 (cellC [.int .u8 15, .int .i64 (wrap64 l0), .int .i64 0, .int .i64 (wrap64 l1), .int .i64 (wrap64 l2), .int .i64 0, .int .i64 0, .int .u8 0, .int .u8 0, .int .u8 0, .int .u64 0, .slice none 0 0]) from by
    rw [hw1]
    have h5 := rowC (w.alloc (.cells #[.int .u8 0, .int .i64 0, .int .i64 0, .int .i64 0, .int .i64 0, .int .i64 0, .int .i64 0, .int .u8 0, .int .u8 0, .int .u8 0, .int .u64 0, .slice none 0 0] 29)) [.int .u8 15, .int .i64 (wrap64 l0), .int .i64 0, .int .i64 (wrap64 l1), .int .i64 (wrap64 l2), .int .i64 0, .int .i64 0, .int .u8 0, .int .u8 0, .int .u8 0, .int .u64 0, .slice none 0 0] 29
    rw [World.size_alloc] at h5
    exact h5)
  have HR := Lib.hid (show RowAt w1 w.heap.size 12 (cellC [.int .u8 0, .int .i64 0, .int .i64 0, .int .i64 0, .int .i64 0, .int .i64 0, .int .i64 0, .int .u8 0, .int .u8 0, .int .u8 0, .int .u64 0, .slice none 0 0]) from by
    rw [hw1]
    exact (rowC w [.int .u8 0, .int .i64 0, .int .i64 0, .int .i64 0, .int .i64 0, .int .i64 0, .int .i64 0, .int .u8 0, .int .u8 0, .int .u8 0, .int .u64 0, .slice none 0 0] 29).alloc _)
  have K3 := Lib.hid (show w1.cell? ⟨b, 3, none⟩ = some (.int .u64 ((l3 : Nat) : Int)) from (HB1.out.cell (p := ⟨b, 3, none⟩) hb).trans k3)
  have K4 := Lib.hid (show w1.cell? ⟨b, 4, none⟩ = some (.int .u64 ((l4 : Nat) : Int)) from (HB1.out.cell (p := ⟨b, 4, none⟩) hb).trans k4)
  go_wp2_with (fail)
  rw [← hw1]
  clear hw1
  have M1 := Lib.hid (show ∀ W, W = w1.drew → (loadVar 26 ⟨b, 3, none⟩).run Tryd.prog W = .ok (.int .u64 ((l3 : Nat) : Int)) W from fun W hW => by
    subst hW
    exact run_loadVar_cell (fun _ => by kernel_rfl) K3.out)
  have M2 := Lib.hid (show ∀ W, W = w1.drew → (loadVar 26 ⟨b, 4, none⟩).run Tryd.prog W = .ok (.int .u64 ((l4 : Nat) : Int)) W from fun W hW => by
    subst hW
    exact run_loadVar_cell (fun _ => by kernel_rfl) K4.out)
  have V1 := Lib.hid (show ∀ W, W = w1.drew → (convert 26 23 (.int .u64 ((l3 : Nat) : Int))).run Tryd.prog W = .ok (.int .u8 ((l3 % 256 : Nat) : Int)) W from fun W _ => by
    go_simp
    rw [IntKind.wrap_u8'])
  have V2 := Lib.hid (show ∀ W, W = w1.drew → (convert 26 5 (.int .u64 ((l4 : Nat) : Int))).run Tryd.prog W = .ok (.int .u8 ((l4 % 256 : Nat) : Int)) W from fun W _ => by
    go_simp
    rw [IntKind.wrap_u8'])
  obtain ⟨W2, hW2⟩ : ∃ W2, W2 = w1.drew.setCells (w.heap.size + 1) 8 [.int .u8 ((l3 % 256 : Nat) : Int), .int .u8 ((l4 % 256 : Nat) : Int)] := ⟨_, rfl⟩
  have ho2 := Only.setCells (S := fun k => k = w.heap.size + 1) (b := w.heap.size + 1) rfl [.int .u8 ((l3 % 256 : Nat) : Int), .int .u8 ((l4 % 256 : Nat) : Int)] 8 w1.drew
  rw [← hW2] at ho2
  have HTH := Lib.hid (show w1.drew.there (w.heap.size + 1) 8 2 from (HX.out.later (below_drewN (Below.refl _ _) 1)).there 8 2 (by decide))
  have HX2 := Lib.hid (show RowAt W2 (w.heap.size + 1) 12 (cellC [.int .u8 15, .int .i64 (wrap64 l0), .int .i64 0, .int .i64 (wrap64 l1), .int .i64 (wrap64 l2), .int .i64 0, .int .i64 0, .int .u8 0, .int .u8 ((l3 % 256 : Nat) : Int), .int .u8 ((l4 % 256 : Nat) : Int), .int .u64 0, .slice none 0 0]) from by
    rw [hW2]
    refine (RowAt.setCells [.int .u8 ((l3 % 256 : Nat) : Int), .int .u8 ((l4 % 256 : Nat) : Int)] 8 w1.drew _ (HX.out.later (below_drewN (Below.refl _ _) 1))).ext (fun i hi => ?_)
    match i, hi with
    | 0, _ | 1, _ | 2, _ | 3, _ | 4, _ | 5, _ | 6, _ | 7, _ | 8, _ | 9, _ | 10, _ | 11, _ => rfl)
  have HR2 := Lib.hid ((HR.out.later (below_drewN (Below.refl _ _) 1)).only ho2 (by omega))
  have HB2 := Lib.hid (ho2.below (below_drewN HB1.out 1) HB1.out.size (fun k hk => by omega))
  have HW2 := Lib.hid hW2
  clear ho2 hW2 HX HR K3 K4
  refine wp_region_lexF (fun W => W = w1.drew) [(0, false), (1, false), (2, false), (3, false), (4, false), (5, false), (6, false), (7, false), (8, false), (9, false)] 10 (by kernel_rfl) (by kernel_rfl) rfl (by kernel_rfl) rfl ?_
  intro V0 hV0 hS0
  clear hS0
  refine lexH_yieldE rfl rfl ?_
  apply Exists.intro
  refine ⟨fun W hW => ?_, ?_⟩
  focus (go_simp; exact rfl)
  simp only [List.getElem_toArray, List.getElem_cons_zero, Act.put, List.setIfInBounds_toArray, List.set_cons_zero, List.set_cons_succ]
  refine lexH_yieldE rfl rfl ?_
  apply Exists.intro
  refine ⟨fun W hW => ?_, ?_⟩
  focus (go_simp; exact rfl)
  simp only [List.getElem_toArray, List.getElem_cons_succ, List.getElem_cons_zero, Act.put, List.setIfInBounds_toArray, List.set_cons_zero, List.set_cons_succ]
  refine lexH_load rfl rfl _ _ rfl rfl M1.out ?_
  simp only [List.getElem_toArray, List.getElem_cons_succ, List.getElem_cons_zero, Act.put, List.setIfInBounds_toArray, List.set_cons_zero, List.set_cons_succ]
  refine lexH_conv rfl rfl _ _ _ rfl rfl V1.out ?_
  simp only [List.getElem_toArray, List.getElem_cons_succ, List.getElem_cons_zero, Act.put, List.setIfInBounds_toArray, List.set_cons_zero, List.set_cons_succ]
  refine lexH_yieldE rfl rfl ?_
  apply Exists.intro
  refine ⟨fun W hW => ?_, ?_⟩
  focus (go_simp; exact rfl)
  simp only [List.getElem_toArray, List.getElem_cons_succ, List.getElem_cons_zero, Act.put, List.setIfInBounds_toArray, List.set_cons_zero, List.set_cons_succ]
  refine lexH_yieldE rfl rfl ?_
  apply Exists.intro
  refine ⟨fun W hW => ?_, ?_⟩
  focus (go_simp; exact rfl)
  simp only [List.getElem_toArray, List.getElem_cons_succ, List.getElem_cons_zero, Act.put, List.setIfInBounds_toArray, List.set_cons_zero, List.set_cons_succ]
  refine lexH_load rfl rfl _ _ rfl rfl M2.out ?_
  simp only [List.getElem_toArray, List.getElem_cons_succ, List.getElem_cons_zero, Act.put, List.setIfInBounds_toArray, List.set_cons_zero, List.set_cons_succ]
  refine lexH_conv rfl rfl _ _ _ rfl rfl V2.out ?_
  simp only [List.getElem_toArray, List.getElem_cons_succ, List.getElem_cons_zero, Act.put, List.setIfInBounds_toArray, List.set_cons_zero, List.set_cons_succ]
  refine lexH_yieldE rfl rfl ?_
  apply Exists.intro
  refine ⟨fun W hW => ?_, ?_⟩
  focus (go_simp; exact rfl)
  simp only [List.getElem_toArray, List.getElem_cons_succ, List.getElem_cons_zero, Act.put, List.setIfInBounds_toArray, List.set_cons_zero, List.set_cons_succ]
  refine lexH_yieldE rfl rfl ?_
  apply Exists.intro
  refine ⟨fun W hW => ?_, ?_⟩
  focus (go_simp; exact rfl)
  simp only [List.getElem_toArray, List.getElem_cons_succ, List.getElem_cons_zero, Act.put, List.setIfInBounds_toArray, List.set_cons_zero, List.set_cons_succ]
  refine lexH_last rfl rfl ?_
  rw [hV0]
  refine wp_store_mid _ _ _ rfl (w.heap.size + 1) 8 #[.int .u8 ((l3 % 256 : Nat) : Int), .int .u8 ((l4 % 256 : Nat) : Int)] rfl rfl HTH.out sizePol (by simp [Value.oneCell']) ?_
  rw [show w1.drew.setCells (w.heap.size + 1) 8 (#[Value.int .u8 ((l3 % 256 : Nat) : Int), Value.int .u8 ((l4 % 256 : Nat) : Int)] : Array Value).toList = W2 from HW2.out.symm]
  clear HW2 HTH M1 M2 V1 V2 hV0
  have x11 : W2.cell? ⟨w.heap.size + 1, 11, none⟩ = some (.slice none 0 0) := HX2.out.cell 11 (by decide)
  have f11 := HX2.out.frozen 11
  obtain ⟨W3, hW3⟩ : ∃ W3, W3 = W2.setCell ⟨w.heap.size + 1, 11, none⟩ (.slice a m d) := ⟨_, rfl⟩
  have ho3 := Only.setCell (S := fun k => k = w.heap.size + 1) W2 ⟨w.heap.size + 1, 11, none⟩ rfl (.slice a m d)
  rw [← hW3] at ho3
  have HX3 := Lib.hid (show RowAt W3 (w.heap.size + 1) 12 (cellC [.int .u8 15, .int .i64 (wrap64 l0), .int .i64 0, .int .i64 (wrap64 l1), .int .i64 (wrap64 l2), .int .i64 0, .int .i64 0, .int .u8 0, .int .u8 ((l3 % 256 : Nat) : Int), .int .u8 ((l4 % 256 : Nat) : Int), .int .u64 0, .slice a m d]) from by
    rw [hW3]
    refine (HX2.out.setCell 11 (.slice a m d)).ext (fun i hi => ?_)
    match i, hi with
    | 0, _ | 1, _ | 2, _ | 3, _ | 4, _ | 5, _ | 6, _ | 7, _ | 8, _ | 9, _ | 10, _ | 11, _ => rfl)
  have HR3 := Lib.hid (HR2.out.only ho3 (by omega))
  have HB3 := Lib.hid (ho3.below HB2.out HB2.out.size (fun k hk => by omega))
  have HLD := Lib.hid (load_call HX3.out rfl)
  have y0 : W2.cell? ⟨w.heap.size + 1, 0, none⟩ = some (.int .u8 15) := HX2.out.cell 0 (by decide)
  have y1 : W2.cell? ⟨w.heap.size + 1, 1, none⟩ = some (.int .i64 (wrap64 l0)) := HX2.out.cell 1 (by decide)
  have y2 : W2.cell? ⟨w.heap.size + 1, 2, none⟩ = some (.int .i64 0) := HX2.out.cell 2 (by decide)
  have y3 : W2.cell? ⟨w.heap.size + 1, 3, none⟩ = some (.int .i64 (wrap64 l1)) := HX2.out.cell 3 (by decide)
  have y4 : W2.cell? ⟨w.heap.size + 1, 4, none⟩ = some (.int .i64 (wrap64 l2)) := HX2.out.cell 4 (by decide)
  have y5 : W2.cell? ⟨w.heap.size + 1, 5, none⟩ = some (.int .i64 0) := HX2.out.cell 5 (by decide)
  have y6 : W2.cell? ⟨w.heap.size + 1, 6, none⟩ = some (.int .i64 0) := HX2.out.cell 6 (by decide)
  have y7 : W2.cell? ⟨w.heap.size + 1, 7, none⟩ = some (.int .u8 0) := HX2.out.cell 7 (by decide)
  have y8 : W2.cell? ⟨w.heap.size + 1, 8, none⟩ = some (.int .u8 ((l3 % 256 : Nat) : Int)) := HX2.out.cell 8 (by decide)
  have y9 : W2.cell? ⟨w.heap.size + 1, 9, none⟩ = some (.int .u8 ((l4 % 256 : Nat) : Int)) := HX2.out.cell 9 (by decide)
  have y10 : W2.cell? ⟨w.heap.size + 1, 10, none⟩ = some (.int .u64 0) := HX2.out.cell 10 (by decide)
  have HW3 := Lib.hid hW3
  clear ho3 hW3 HX2 HR2 HB2
  go_wp2_with (first | (refine wpList_store_mid rfl 29 _ _ rfl w.heap.size 0 #[.int .u8 15, .int .i64 (wrap64 l0), .int .i64 0, .int .i64 (wrap64 l1), .int .i64 (wrap64 l2), .int .i64 0, .int .i64 0, .int .u8 0, .int .u8 ((l3 % 256 : Nat) : Int), .int .u8 ((l4 % 256 : Nat) : Int), .int .u64 0, .slice a m d] rfl rfl (by rw [← HW3.out]; exact HR3.out.there 0 12 (by decide)) sizeCall (by simp [Value.oneCell']) ?_) | fail)
  rw [← HW3.out]
  have ho4 := Only.setCells (S := fun k => k = w.heap.size) (b := w.heap.size) rfl [.int .u8 15, .int .i64 (wrap64 l0), .int .i64 0, .int .i64 (wrap64 l1), .int .i64 (wrap64 l2), .int .i64 0, .int .i64 0, .int .u8 0, .int .u8 ((l3 % 256 : Nat) : Int), .int .u8 ((l4 % 256 : Nat) : Int), .int .u64 0, .slice a m d] 0 W3
  have HL4 := load_call (W := W3.setCells w.heap.size 0 [.int .u8 15, .int .i64 (wrap64 l0), .int .i64 0, .int .i64 (wrap64 l1), .int .i64 (wrap64 l2), .int .i64 0, .int .i64 0, .int .u8 0, .int .u8 ((l3 % 256 : Nat) : Int), .int .u8 ((l4 % 256 : Nat) : Int), .int .u64 0, .slice a m d]) (l := [.int .u8 15, .int .i64 (wrap64 l0), .int .i64 0, .int .i64 (wrap64 l1), .int .i64 (wrap64 l2), .int .i64 0, .int .i64 0, .int .u8 0, .int .u8 ((l3 % 256 : Nat) : Int), .int .u8 ((l4 % 256 : Nat) : Int), .int .u64 0, .slice a m d]) ((RowAt.setCells [.int .u8 15, .int .i64 (wrap64 l0), .int .i64 0, .int .i64 (wrap64 l1), .int .i64 (wrap64 l2), .int .i64 0, .int .i64 0, .int .u8 0, .int .u8 ((l3 % 256 : Nat) : Int), .int .u8 ((l4 % 256 : Nat) : Int), .int .u64 0, .slice a m d] 0 W3 _ HR3.out).ext (fun i hi => by
    match i, hi with
    | 0, _ | 1, _ | 2, _ | 3, _ | 4, _ | 5, _ | 6, _ | 7, _ | 8, _ | 9, _ | 10, _ | 11, _ => rfl)) rfl
  have HB4 := ho4.below HB3.out HB3.out.size (fun k hk => by omega)
  refine bodyPost_ret (v := .agg _) ?_ rfl ⟨rfl, HB4⟩
  exact results_ptr rfl rfl HL4
set_option maxRecDepth 100000 in
set_option maxHeartbeats 4000000 in
theorem of16_any {base : Nat} {L : List Nat} {v : Value} {w : World} (h : NumAt base L v w) (hL : L.length = 2) (a : Option Addr) (m d : Nat) : Calls Tryd.prog 38 #[.int .u8 16, v, .slice a m d] w (OfPost (ofN 16 fun i => L.getD i 0) a m d w) := by
  obtain ⟨b, c, rfl, hc⟩ := h.at_ (by omega)
  rw [hL] at hc ⊢
  have k0 := hc 0 (by decide)
  have k1 := hc 1 (by decide)
  generalize hg0 : L.getD 0 0 = l0 at *
  generalize hg1 : L.getD 1 0 = l1 at *
  have hg : (fun i => L.getD i 0) = fun i => L.getD i 0 := rfl
  have hb := World.block_lt_of_cell? _ _ k0
  have HO := Lib.hid (show ofN 16 (fun i => L.getD i 0) = ⟨16, wrap64 (l0), 0, wrap64 (l1), 0, 0, 0, 0, 0, 0, 0⟩ by
    unfold ofN
    simp only [hg0, hg1])
  rw [HO.out]
  clear hc hg hg0 hg1
  go_enter Tryd.func38, Tryd.ntmps38
  go_wp2_with (fail)
  refine bodyPost_ret (v := .agg _) ?_ rfl ⟨rfl, ((Below.refl _ _).alloc (Nat.le_refl _) _).alloc (by simp) _⟩
  rw [results_cell1 rfl]
  go_simp
  done
set_option maxRecDepth 100000 in
set_option maxHeartbeats 4000000 in
theorem of17_any {base : Nat} {L : List Nat} {v : Value} {w : World} (h : NumAt base L v w) (hL : L.length = 2) (a : Option Addr) (m d : Nat) : Calls Tryd.prog 38 #[.int .u8 17, v, .slice a m d] w (OfPost (ofN 17 fun i => L.getD i 0) a m d w) := by
  obtain ⟨b, c, rfl, hc⟩ := h.at_ (by omega)
  rw [hL] at hc ⊢
  have k0 := hc 0 (by decide)
  have k1 := hc 1 (by decide)
  generalize hg0 : L.getD 0 0 = l0 at *
  generalize hg1 : L.getD 1 0 = l1 at *
  have hg : (fun i => L.getD i 0) = fun i => L.getD i 0 := rfl
  have hb := World.block_lt_of_cell? _ _ k0
  have HO := Lib.hid (show ofN 17 (fun i => L.getD i 0) = ⟨17, wrap64 (l0), 0, wrap64 (l1), 0, 0, 0, 0, 0, 0, 0⟩ by
    unfold ofN
    simp only [hg0, hg1])
  rw [HO.out]
  clear hc hg hg0 hg1
  go_enter Tryd.func38, Tryd.ntmps38
  go_wp2_with (fail)
  refine bodyPost_ret (v := .agg _) ?_ rfl ⟨rfl, ((Below.refl _ _).alloc (Nat.le_refl _) _).alloc (by simp) _⟩
  rw [results_cell1 rfl]
  go_simp
  done
set_option maxRecDepth 100000 in
set_option maxHeartbeats 4000000 in
theorem of18_any {base : Nat} {L : List Nat} {v : Value} {w : World} (h : NumAt base L v w) (hL : L.length = 4) (a : Option Addr) (m d : Nat) : Calls Tryd.prog 38 #[.int .u8 18, v, .slice a m d] w (OfPost (ofN 18 fun i => L.getD i 0) a m d w) := by
  obtain ⟨b, c, rfl, hc⟩ := h.at_ (by omega)
  rw [hL] at hc ⊢
  have k0 := hc 0 (by decide)
  have k1 := hc 1 (by decide)
  have k2 := hc 2 (by decide)
  have k3 := hc 3 (by decide)
  generalize hg0 : L.getD 0 0 = l0 at *
  generalize hg1 : L.getD 1 0 = l1 at *
  generalize hg2 : L.getD 2 0 = l2 at *
  generalize hg3 : L.getD 3 0 = l3 at *
  have hg : (fun i => L.getD i 0) = fun i => L.getD i 0 := rfl
  have hb := World.block_lt_of_cell? _ _ k0
  have HO := Lib.hid (show ofN 18 (fun i => L.getD i 0) = ⟨18, wrap64 (l0), wrap64 (l3), wrap64 (l1), wrap64 (l2), 0, 0, 0, 0, 0, 0⟩ by
    unfold ofN
    simp only [hg0, hg1, hg2, hg3])
  rw [HO.out]
  clear hc hg hg0 hg1 hg2 hg3
  go_enter Tryd.func38, Tryd.ntmps38
  go_wp2_with (fail)
  refine bodyPost_ret (v := .agg _) ?_ rfl ⟨rfl, ((Below.refl _ _).alloc (Nat.le_refl _) _).alloc (by simp) _⟩
  rw [results_cell1 rfl]
  go_simp
  done
set_option maxRecDepth 100000 in
set_option maxHeartbeats 4000000 in
theorem of19_any {base : Nat} {L : List Nat} {v : Value} {w : World} (h : NumAt base L v w) (hL : L.length = 1) (a : Option Addr) (m d : Nat) : Calls Tryd.prog 38 #[.int .u8 19, v, .slice a m d] w (OfPost (ofN 19 fun i => L.getD i 0) a m d w) := by
  obtain ⟨b, c, rfl, hc⟩ := h.at_ (by omega)
  rw [hL] at hc ⊢
  have k0 := hc 0 (by decide)
  generalize hg0 : L.getD 0 0 = l0 at *
  have hg : (fun i => L.getD i 0) = fun i => L.getD i 0 := rfl
  have hb := World.block_lt_of_cell? _ _ k0
  have HO := Lib.hid (show ofN 19 (fun i => L.getD i 0) = ⟨19, 0, wrap64 (l0), 0, 0, 0, 0, 0, 0, 0, 0⟩ by
    unfold ofN
    simp only [hg0])
  rw [HO.out]
  clear hc hg hg0
  go_enter Tryd.func38, Tryd.ntmps38
  go_wp2_with (fail)
  refine bodyPost_ret (v := .agg _) ?_ rfl ⟨rfl, ((Below.refl _ _).alloc (Nat.le_refl _) _).alloc (by simp) _⟩
  rw [results_cell1 rfl]
  go_simp
  done
set_option maxRecDepth 100000 in
set_option maxHeartbeats 4000000 in
theorem of20_any {base : Nat} {L : List Nat} {v : Value} {w : World} (h : NumAt base L v w) (hL : L.length = 1) (a : Option Addr) (m d : Nat) : Calls Tryd.prog 38 #[.int .u8 20, v, .slice a m d] w (OfPost (ofN 20 fun i => L.getD i 0) a m d w) := by
  obtain ⟨b, c, rfl, hc⟩ := h.at_ (by omega)
  rw [hL] at hc ⊢
  have k0 := hc 0 (by decide)
  generalize hg0 : L.getD 0 0 = l0 at *
  have hg : (fun i => L.getD i 0) = fun i => L.getD i 0 := rfl
  have hb := World.block_lt_of_cell? _ _ k0
  have HO := Lib.hid (show ofN 20 (fun i => L.getD i 0) = ⟨20, 0, wrap64 (l0), 0, 0, 0, 0, 0, 0, 0, 0⟩ by
    unfold ofN
    simp only [hg0])
  rw [HO.out]
  clear hc hg hg0
  go_enter Tryd.func38, Tryd.ntmps38
  go_wp2_with (fail)
  refine bodyPost_ret (v := .agg _) ?_ rfl ⟨rfl, ((Below.refl _ _).alloc (Nat.le_refl _) _).alloc (by simp) _⟩
  rw [results_cell1 rfl]
  go_simp
  done
set_option maxRecDepth 100000 in
set_option maxHeartbeats 4000000 in
theorem of21_any {base : Nat} {L : List Nat} {v : Value} {w : World} (h : NumAt base L v w) (hL : L.length = 0) (a : Option Addr) (m d : Nat) : Calls Tryd.prog 38 #[.int .u8 21, v, .slice a m d] w (OfPost (ofN 21 fun i => L.getD i 0) a m d w) := by
  obtain ⟨x, c, rfl, _⟩ := h
  rw [hL]
  have HO := Lib.hid (show ofN 21 (fun i => L.getD i 0) = ⟨21, 0, 0, 0, 0, 0, 0, 0, 0, 0, 0⟩ by
    unfold ofN
    rfl)
  rw [HO.out]
  go_enter Tryd.func38, Tryd.ntmps38
  go_wp2_with (fail)
  refine bodyPost_ret (v := .agg _) ?_ rfl ⟨rfl, ((Below.refl _ _).alloc (Nat.le_refl _) _).alloc (by simp) _⟩
  rw [results_cell1 rfl]
  go_simp
  done
theorem of_any {base : Nat} {k : Nat} (hk : okK k = true) {L : List Nat} {v : Value} {w : World} (h : NumAt base L v w) (hL : L.length = lenK k) (a : Option Addr) (m d : Nat) : Calls Tryd.prog 38 #[.int .u8 (k : Int), v, .slice a m d] w (OfPost (ofN k fun i => L.getD i 0) a m d w) := by
  have h2 : 1 ≤ k ∧ k ≤ 21 := of_decide_eq_true hk
  match k, h2, hL with
  | 1, _, hL => exact of1_any h hL a m d
  | 2, _, hL => exact of2_any h hL a m d
  | 3, _, hL => exact of3_any h hL a m d
  | 4, _, hL => exact of4_any h hL a m d
  | 5, _, hL => exact of5_any h hL a m d
  | 6, _, hL => exact of6_any h hL a m d
  | 7, _, hL => exact of7_any h hL a m d
  | 8, _, hL => exact of8_any h hL a m d
  | 9, _, hL => exact of9_any h hL a m d
  | 10, _, hL => exact of10_any h hL a m d
  | 11, _, hL => exact of11_any h hL a m d
  | 12, _, hL => exact of12_any h hL a m d
  | 13, _, hL => exact of13_any h hL a m d
  | 14, _, hL => exact of14_any h hL a m d
  | 15, _, hL => exact of15_any h hL a m d
  | 16, _, hL => exact of16_any h hL a m d
  | 17, _, hL => exact of17_any h hL a m d
  | 18, _, hL => exact of18_any h hL a m d
  | 19, _, hL => exact of19_any h hL a m d
  | 20, _, hL => exact of20_any h hL a m d
  | 21, _, hL => exact of21_any h hL a m d
end Go.Proofs.YtkmjkkeldbocdaaDoor

