/-
  calls, the document's: a call's fields as whole numbers.
-/
import Derived.Test.YtkmjkkeldbocdaaDoorCsRb
import Derived.OwnWalk
namespace Go.Proofs.YtkmjkkeldbocdaaDoor
open Go.RowKit Go
attribute [local go_sem] Oper.semAt_some

/-- A call, its bytes aside. -/
structure CallM where
  kind : Nat
  pid : Int
  node : Int
  page : Int
  count : Int
  addr : Int
  size : Int
  rights : Nat
  pk : Nat
  pm : Nat
  handle : Nat
abbrev CallM.cells (q : CallM) (a : Option Addr) (n c : Nat) : Array Value := #[.int .u8 (q.kind : Int), .int .i64 q.pid, .int .i64 q.node, .int .i64 q.page, .int .i64 q.count, .int .i64 q.addr, .int .i64 q.size, .int .u8 (q.rights : Int), .int .u8 (q.pk : Int), .int .u8 (q.pm : Int), .int .u64 (q.handle : Int), .slice a n c]
/-- A number as its eight bytes tell it. -/
def uI (z : Int) : Nat := (z % 18446744073709551616).toNat
theorem uI_val (z : Int) : ((uI z : Nat) : Int) = z % 18446744073709551616 := by
  unfold uI
  omega
theorem uI_lt (z : Int) : uI z < 18446744073709551616 := by
  unfold uI
  omega
def listN (q : CallM) : List Nat := match q with
  | ⟨kind, pid, node, page, count, addr, size, rights, pk, pm, handle⟩ => match kind with
    | 2 => [uI pid]
    | 3 => [uI pid, uI page, uI count, rights]
    | 4 => [uI pid, uI page, uI count]
    | 5 => [uI pid, uI page, uI count, rights]
    | 6 => [uI pid, uI page, uI count]
    | 7 => [uI pid, uI page, uI count]
    | 8 => [uI pid, uI addr, uI size]
    | 9 => [uI pid, uI addr]
    | 10 => [uI size]
    | 11 => [handle]
    | 12 => [handle, uI addr, uI size]
    | 13 => [handle, uI addr]
    | 14 => [uI pid, pk, pm]
    | 15 => [uI pid, uI page, uI count, pk, pm]
    | 16 => [uI pid, uI page]
    | 17 => [uI pid, uI page]
    | 18 => [uI pid, uI page, uI count, uI node]
    | 19 => [uI node]
    | 20 => [uI node]
    | _ => []
def hasK (k : Nat) : Bool := decide (k = 9 ∨ k = 13)
def okK (k : Nat) : Bool := decide (1 ≤ k ∧ k ≤ 21)
/-- Numbers in a block of their own. -/
def NumAt (base : Nat) (L : List Nat) (v : Value) (w : World) : Prop := ∃ a c, v = .slice a L.length c ∧ (0 < L.length → ∃ b, a = some ⟨b, 0, none⟩ ∧ base ≤ b ∧ RowAt w b L.length (fun i => .int .u64 ((L.getD i 0 : Nat) : Int)))
theorem NumAt.nil (base : Nat) (w : World) : NumAt base [] (.slice none 0 0) w := ⟨none, 0, rfl, fun h => absurd h (by decide)⟩
theorem NumAt.new {base : Nat} (w : World) (hb : base ≤ w.heap.size) (L : List Nat) (n c : Nat) (hn : n = L.length) (A : Array Value) (hA : A = (L.map fun (x : Nat) => Value.int .u64 (x : Int)).toArray) : NumAt base L (.slice (some ⟨w.heap.size, 0, none⟩) n c) (w.alloc (.cells A 26)) := by
  subst hn hA
  refine ⟨_, c, rfl, fun _ => ⟨w.heap.size, rfl, hb, RowAt.new w _ _ _ _ (fun i hi => ?_)⟩⟩
  rw [List.getElem?_toArray, List.getElem?_map, List.getD_eq_getElem?_getD, List.getElem?_eq_getElem hi]
  rfl
def ListPost (q : CallM) (w : World) (e : Ending) (w' : World) : Prop := ∃ v, e = .returned (.tuple #[v, .bool (hasK q.kind), .bool (okK q.kind)]) ∧ NumAt w.heap.size (listN q) v w' ∧ Below w.heap.size w w'
set_option maxRecDepth 100000 in
set_option maxHeartbeats 16000000 in
theorem list_any (q : CallM) (hr : q.rights ≤ 255) (hk : q.pk ≤ 255) (hm : q.pm ≤ 255) (a : Option Addr) (n c : Nat) (w : World) : Calls Tryd.prog 37 #[.agg (q.cells a n c)] w (ListPost q w) := by
  have hb : Below w.heap.size w (w.alloc (.cells (q.cells a n c) 29)) := (Below.refl _ _).alloc (Nat.le_refl _) _
  obtain ⟨kind, pid, node, page, count, addr, size, rights, pk, pm, handle⟩ := q
  have k0 : (w.alloc (.cells (CallM.cells ⟨kind, pid, node, page, count, addr, size, rights, pk, pm, handle⟩ a n c) 29)).cell? ⟨w.heap.size, 0, none⟩ = some (.int .u8 (kind : Int)) := by simp [go_sem]
  have k1 : (w.alloc (.cells (CallM.cells ⟨kind, pid, node, page, count, addr, size, rights, pk, pm, handle⟩ a n c) 29)).cell? ⟨w.heap.size, 1, none⟩ = some (.int .i64 pid) := by simp [go_sem]
  have k2 : (w.alloc (.cells (CallM.cells ⟨kind, pid, node, page, count, addr, size, rights, pk, pm, handle⟩ a n c) 29)).cell? ⟨w.heap.size, 2, none⟩ = some (.int .i64 node) := by simp [go_sem]
  have k3 : (w.alloc (.cells (CallM.cells ⟨kind, pid, node, page, count, addr, size, rights, pk, pm, handle⟩ a n c) 29)).cell? ⟨w.heap.size, 3, none⟩ = some (.int .i64 page) := by simp [go_sem]
  have k4 : (w.alloc (.cells (CallM.cells ⟨kind, pid, node, page, count, addr, size, rights, pk, pm, handle⟩ a n c) 29)).cell? ⟨w.heap.size, 4, none⟩ = some (.int .i64 count) := by simp [go_sem]
  have k5 : (w.alloc (.cells (CallM.cells ⟨kind, pid, node, page, count, addr, size, rights, pk, pm, handle⟩ a n c) 29)).cell? ⟨w.heap.size, 5, none⟩ = some (.int .i64 addr) := by simp [go_sem]
  have k6 : (w.alloc (.cells (CallM.cells ⟨kind, pid, node, page, count, addr, size, rights, pk, pm, handle⟩ a n c) 29)).cell? ⟨w.heap.size, 6, none⟩ = some (.int .i64 size) := by simp [go_sem]
  have k7 : (w.alloc (.cells (CallM.cells ⟨kind, pid, node, page, count, addr, size, rights, pk, pm, handle⟩ a n c) 29)).cell? ⟨w.heap.size, 7, none⟩ = some (.int .u8 (rights : Int)) := by simp [go_sem]
  have k8 : (w.alloc (.cells (CallM.cells ⟨kind, pid, node, page, count, addr, size, rights, pk, pm, handle⟩ a n c) 29)).cell? ⟨w.heap.size, 8, none⟩ = some (.int .u8 (pk : Int)) := by simp [go_sem]
  have k9 : (w.alloc (.cells (CallM.cells ⟨kind, pid, node, page, count, addr, size, rights, pk, pm, handle⟩ a n c) 29)).cell? ⟨w.heap.size, 9, none⟩ = some (.int .u8 (pm : Int)) := by simp [go_sem]
  have k10 : (w.alloc (.cells (CallM.cells ⟨kind, pid, node, page, count, addr, size, rights, pk, pm, handle⟩ a n c) 29)).cell? ⟨w.heap.size, 10, none⟩ = some (.int .u64 (handle : Int)) := by simp [go_sem]
  have HB := Lib.hid hb
  have hrI : (rights : Int) ≤ 255 := by have : rights ≤ 255 := hr; omega
  have hkI : (pk : Int) ≤ 255 := by have : pk ≤ 255 := hk; omega
  have hmI : (pm : Int) ≤ 255 := by have : pm ≤ 255 := hm; omega
  clear hb hr hk hm
  go_enter Tryd.func37, Tryd.ntmps37
  go_wp2_with (fail)
  generalize w.alloc (.cells (CallM.cells ⟨kind, pid, node, page, count, addr, size, rights, pk, pm, handle⟩ a n c) 29) = w1 at *
  have L1 := Lib.hid (show ∀ W, W = w1.drew → (loadVar 3 ⟨w.heap.size, 1, none⟩).run Tryd.prog W = .ok (.int .i64 pid) W from fun W hW => by
    subst hW
    exact run_loadVar_cell (fun _ => by kernel_rfl) k1)
  have V1 := Lib.hid (show ∀ W, W = w1.drew → (convert 3 26 (.int .i64 pid)).run Tryd.prog W = .ok (.int .u64 ((uI pid : Nat) : Int)) W from fun W _ => by
    go_simp
    rw [IntKind.wrap_u64, uI_val])
  have L3 := Lib.hid (show ∀ W, W = w1.drew → (loadVar 3 ⟨w.heap.size, 3, none⟩).run Tryd.prog W = .ok (.int .i64 page) W from fun W hW => by
    subst hW
    exact run_loadVar_cell (fun _ => by kernel_rfl) k3)
  have V3 := Lib.hid (show ∀ W, W = w1.drew → (convert 3 26 (.int .i64 page)).run Tryd.prog W = .ok (.int .u64 ((uI page : Nat) : Int)) W from fun W _ => by
    go_simp
    rw [IntKind.wrap_u64, uI_val])
  have L4 := Lib.hid (show ∀ W, W = w1.drew → (loadVar 3 ⟨w.heap.size, 4, none⟩).run Tryd.prog W = .ok (.int .i64 count) W from fun W hW => by
    subst hW
    exact run_loadVar_cell (fun _ => by kernel_rfl) k4)
  have V4 := Lib.hid (show ∀ W, W = w1.drew → (convert 3 26 (.int .i64 count)).run Tryd.prog W = .ok (.int .u64 ((uI count : Nat) : Int)) W from fun W _ => by
    go_simp
    rw [IntKind.wrap_u64, uI_val])
  refine wp_region_lex1 (fun W => W = w1.drew) [(0, false), (1, false), (2, false), (3, false), (4, false), (5, false), (6, false), (7, false), (8, false), (9, false), (10, false), (11, false)] (by kernel_rfl) (by kernel_rfl) rfl (by kernel_rfl) rfl ?_
  intro V0 hV0 hS0
  have HV0 := Lib.hid hV0
  clear hV0 hS0
  refine lexH_yieldE rfl rfl ?_
  apply Exists.intro
  refine ⟨fun W hW => ?_, ?_⟩
  focus (go_simp; exact rfl)
  simp only [List.getElem_toArray, List.getElem_cons_zero, Act.put, List.setIfInBounds_toArray, List.set_cons_zero, List.set_cons_succ]
  refine lexH_load rfl rfl _ _ rfl rfl L1.out ?_
  simp only [List.getElem_toArray, List.getElem_cons_succ, List.getElem_cons_zero, Act.put, List.setIfInBounds_toArray, List.set_cons_zero, List.set_cons_succ]
  refine lexH_conv rfl rfl _ _ _ rfl rfl V1.out ?_
  simp only [List.getElem_toArray, List.getElem_cons_succ, List.getElem_cons_zero, Act.put, List.setIfInBounds_toArray, List.set_cons_zero, List.set_cons_succ]
  refine lexH_yieldE rfl rfl ?_
  apply Exists.intro
  refine ⟨fun W hW => ?_, ?_⟩
  focus (go_simp; exact rfl)
  simp only [List.getElem_toArray, List.getElem_cons_succ, List.getElem_cons_zero, Act.put, List.setIfInBounds_toArray, List.set_cons_zero, List.set_cons_succ]
  refine lexH_load rfl rfl _ _ rfl rfl L3.out ?_
  simp only [List.getElem_toArray, List.getElem_cons_succ, List.getElem_cons_zero, Act.put, List.setIfInBounds_toArray, List.set_cons_zero, List.set_cons_succ]
  refine lexH_conv rfl rfl _ _ _ rfl rfl V3.out ?_
  simp only [List.getElem_toArray, List.getElem_cons_succ, List.getElem_cons_zero, Act.put, List.setIfInBounds_toArray, List.set_cons_zero, List.set_cons_succ]
  refine lexH_yieldE rfl rfl ?_
  apply Exists.intro
  refine ⟨fun W hW => ?_, ?_⟩
  focus (go_simp; exact rfl)
  simp only [List.getElem_toArray, List.getElem_cons_succ, List.getElem_cons_zero, Act.put, List.setIfInBounds_toArray, List.set_cons_zero, List.set_cons_succ]
  refine lexH_load rfl rfl _ _ rfl rfl L4.out ?_
  simp only [List.getElem_toArray, List.getElem_cons_succ, List.getElem_cons_zero, Act.put, List.setIfInBounds_toArray, List.set_cons_zero, List.set_cons_succ]
  refine lexH_conv rfl rfl _ _ _ rfl rfl V4.out ?_
  simp only [List.getElem_toArray, List.getElem_cons_succ, List.getElem_cons_zero, Act.put, List.setIfInBounds_toArray, List.set_cons_zero, List.set_cons_succ]
  refine lexH_yieldE rfl rfl ?_
  apply Exists.intro
  refine ⟨fun W hW => ?_, ?_⟩
  focus (go_simp; exact rfl)
  simp only [List.getElem_toArray, List.getElem_cons_succ, List.getElem_cons_zero, Act.put, List.setIfInBounds_toArray, List.set_cons_zero, List.set_cons_succ]
  refine lexH_yieldE rfl rfl ?_
  apply Exists.intro
  refine ⟨fun W hW => ?_, ?_⟩
  focus (go_simp; exact rfl)
  simp only [List.getElem_toArray, List.getElem_cons_succ, List.getElem_cons_zero, Act.put, List.setIfInBounds_toArray, List.set_cons_zero, List.set_cons_succ]
  refine lexH_yieldE rfl rfl ?_
  apply Exists.intro
  refine ⟨fun W hW => ?_, ?_⟩
  focus (go_simp; exact rfl)
  simp only [List.getElem_toArray, List.getElem_cons_succ, List.getElem_cons_zero, Act.put, List.setIfInBounds_toArray, List.set_cons_zero, List.set_cons_succ]
  refine lexH_nil ?_
  have hV1 := HV0.out
  subst hV1
  clear L1 V1 L3 V3 L4 V4 k1 k3 k4 HV0
  have hb := Lib.hid (Below.refl w1.heap.size w1).drew
  rw [← (Below.refl w1.heap.size w1).drew.cell (World.block_lt_of_cell? _ _ k0)] at k0
  rw [← (Below.refl w1.heap.size w1).drew.cell (World.block_lt_of_cell? _ _ k7)] at k7
  rw [← (Below.refl w1.heap.size w1).drew.cell (World.block_lt_of_cell? _ _ k8)] at k8
  rw [← (Below.refl w1.heap.size w1).drew.cell (World.block_lt_of_cell? _ _ k9)] at k9
  rw [← (Below.refl w1.heap.size w1).drew.cell (World.block_lt_of_cell? _ _ k10)] at k10
  rw [← (Below.refl w1.heap.size w1).drew.cell (World.block_lt_of_cell? _ _ k5)] at k5
  rw [← (Below.refl w1.heap.size w1).drew.cell (World.block_lt_of_cell? _ _ k6)] at k6
  rw [← (Below.refl w1.heap.size w1).drew.cell (World.block_lt_of_cell? _ _ k2)] at k2
  have HB2 := Lib.hid (HB.out.trans (hb.out.mono HB.out.size))
  clear hb HB
  go_wp2_with (fail)
  generalize w1.drew = w2 at *
  have L5 := Lib.hid (show ∀ W, W = w2.drew → (loadVar 3 ⟨w.heap.size, 5, none⟩).run Tryd.prog W = .ok (.int .i64 addr) W from fun W hW => by
    subst hW
    exact run_loadVar_cell (fun _ => by kernel_rfl) k5)
  have V5 := Lib.hid (show ∀ W, W = w2.drew → (convert 3 26 (.int .i64 addr)).run Tryd.prog W = .ok (.int .u64 ((uI addr : Nat) : Int)) W from fun W _ => by
    go_simp
    rw [IntKind.wrap_u64, uI_val])
  have L6 := Lib.hid (show ∀ W, W = w2.drew → (loadVar 3 ⟨w.heap.size, 6, none⟩).run Tryd.prog W = .ok (.int .i64 size) W from fun W hW => by
    subst hW
    exact run_loadVar_cell (fun _ => by kernel_rfl) k6)
  have V6 := Lib.hid (show ∀ W, W = w2.drew → (convert 3 26 (.int .i64 size)).run Tryd.prog W = .ok (.int .u64 ((uI size : Nat) : Int)) W from fun W _ => by
    go_simp
    rw [IntKind.wrap_u64, uI_val])
  have L2 := Lib.hid (show ∀ W, W = w2.drew → (loadVar 3 ⟨w.heap.size, 2, none⟩).run Tryd.prog W = .ok (.int .i64 node) W from fun W hW => by
    subst hW
    exact run_loadVar_cell (fun _ => by kernel_rfl) k2)
  have V2 := Lib.hid (show ∀ W, W = w2.drew → (convert 3 26 (.int .i64 node)).run Tryd.prog W = .ok (.int .u64 ((uI node : Nat) : Int)) W from fun W _ => by
    go_simp
    rw [IntKind.wrap_u64, uI_val])
  refine wp_region_lex1 (fun W => W = w2.drew) [(0, false), (1, false), (2, false), (3, false), (4, false), (5, false), (6, false), (7, false), (8, false), (9, false), (10, false), (11, false)] (by kernel_rfl) (by kernel_rfl) rfl (by kernel_rfl) rfl ?_
  intro V0 hV0 hS0
  have HV0 := Lib.hid hV0
  clear hV0 hS0
  refine lexH_yieldE rfl rfl ?_
  apply Exists.intro
  refine ⟨fun W hW => ?_, ?_⟩
  focus (go_simp; exact rfl)
  simp only [List.getElem_toArray, List.getElem_cons_zero, Act.put, List.setIfInBounds_toArray, List.set_cons_zero, List.set_cons_succ]
  refine lexH_load rfl rfl _ _ rfl rfl L5.out ?_
  simp only [List.getElem_toArray, List.getElem_cons_succ, List.getElem_cons_zero, Act.put, List.setIfInBounds_toArray, List.set_cons_zero, List.set_cons_succ]
  refine lexH_conv rfl rfl _ _ _ rfl rfl V5.out ?_
  simp only [List.getElem_toArray, List.getElem_cons_succ, List.getElem_cons_zero, Act.put, List.setIfInBounds_toArray, List.set_cons_zero, List.set_cons_succ]
  refine lexH_yieldE rfl rfl ?_
  apply Exists.intro
  refine ⟨fun W hW => ?_, ?_⟩
  focus (go_simp; exact rfl)
  simp only [List.getElem_toArray, List.getElem_cons_succ, List.getElem_cons_zero, Act.put, List.setIfInBounds_toArray, List.set_cons_zero, List.set_cons_succ]
  refine lexH_load rfl rfl _ _ rfl rfl L6.out ?_
  simp only [List.getElem_toArray, List.getElem_cons_succ, List.getElem_cons_zero, Act.put, List.setIfInBounds_toArray, List.set_cons_zero, List.set_cons_succ]
  refine lexH_conv rfl rfl _ _ _ rfl rfl V6.out ?_
  simp only [List.getElem_toArray, List.getElem_cons_succ, List.getElem_cons_zero, Act.put, List.setIfInBounds_toArray, List.set_cons_zero, List.set_cons_succ]
  refine lexH_yieldE rfl rfl ?_
  apply Exists.intro
  refine ⟨fun W hW => ?_, ?_⟩
  focus (go_simp; exact rfl)
  simp only [List.getElem_toArray, List.getElem_cons_succ, List.getElem_cons_zero, Act.put, List.setIfInBounds_toArray, List.set_cons_zero, List.set_cons_succ]
  refine lexH_load rfl rfl _ _ rfl rfl L2.out ?_
  simp only [List.getElem_toArray, List.getElem_cons_succ, List.getElem_cons_zero, Act.put, List.setIfInBounds_toArray, List.set_cons_zero, List.set_cons_succ]
  refine lexH_conv rfl rfl _ _ _ rfl rfl V2.out ?_
  simp only [List.getElem_toArray, List.getElem_cons_succ, List.getElem_cons_zero, Act.put, List.setIfInBounds_toArray, List.set_cons_zero, List.set_cons_succ]
  refine lexH_yieldE rfl rfl ?_
  apply Exists.intro
  refine ⟨fun W hW => ?_, ?_⟩
  focus (go_simp; exact rfl)
  simp only [List.getElem_toArray, List.getElem_cons_succ, List.getElem_cons_zero, Act.put, List.setIfInBounds_toArray, List.set_cons_zero, List.set_cons_succ]
  refine lexH_yieldE rfl rfl ?_
  apply Exists.intro
  refine ⟨fun W hW => ?_, ?_⟩
  focus (go_simp; exact rfl)
  simp only [List.getElem_toArray, List.getElem_cons_succ, List.getElem_cons_zero, Act.put, List.setIfInBounds_toArray, List.set_cons_zero, List.set_cons_succ]
  refine lexH_yieldE rfl rfl ?_
  apply Exists.intro
  refine ⟨fun W hW => ?_, ?_⟩
  focus (go_simp; exact rfl)
  simp only [List.getElem_toArray, List.getElem_cons_succ, List.getElem_cons_zero, Act.put, List.setIfInBounds_toArray, List.set_cons_zero, List.set_cons_succ]
  refine lexH_nil ?_
  have hV1 := HV0.out
  subst hV1
  clear L5 V5 L6 V6 L2 V2 k5 k6 k2 HV0
  have hb := Lib.hid (Below.refl w2.heap.size w2).drew
  rw [← (Below.refl w2.heap.size w2).drew.cell (World.block_lt_of_cell? _ _ k0)] at k0
  rw [← (Below.refl w2.heap.size w2).drew.cell (World.block_lt_of_cell? _ _ k7)] at k7
  rw [← (Below.refl w2.heap.size w2).drew.cell (World.block_lt_of_cell? _ _ k8)] at k8
  rw [← (Below.refl w2.heap.size w2).drew.cell (World.block_lt_of_cell? _ _ k9)] at k9
  rw [← (Below.refl w2.heap.size w2).drew.cell (World.block_lt_of_cell? _ _ k10)] at k10
  have HB3 := Lib.hid (HB2.out.trans (hb.out.mono HB2.out.size))
  clear hb HB2
  go_wp2_with (fail)
  generalize w2.drew = w3 at *
  have L8 := Lib.hid (show ∀ W, W = w3.drew → (loadVar 23 ⟨w.heap.size, 8, none⟩).run Tryd.prog W = .ok (.int .u8 (pk : Int)) W from fun W hW => by
    subst hW
    exact run_loadVar_cell (fun _ => by kernel_rfl) k8)
  have V8 := Lib.hid (show ∀ W, W = w3.drew → (convert 23 26 (.int .u8 (pk : Int))).run Tryd.prog W = .ok (.int .u64 (pk : Int)) W from fun W _ => by
    go_simp
    exact u64_nat (by omega))
  have L9 := Lib.hid (show ∀ W, W = w3.drew → (loadVar 5 ⟨w.heap.size, 9, none⟩).run Tryd.prog W = .ok (.int .u8 (pm : Int)) W from fun W hW => by
    subst hW
    exact run_loadVar_cell (fun _ => by kernel_rfl) k9)
  have V9 := Lib.hid (show ∀ W, W = w3.drew → (convert 5 26 (.int .u8 (pm : Int))).run Tryd.prog W = .ok (.int .u64 (pm : Int)) W from fun W _ => by
    go_simp
    exact u64_nat (by omega))
  refine wp_region_lex1 (fun W => W = w3.drew) [(0, false), (1, false), (2, false), (3, false), (4, false), (5, false), (6, false), (7, false), (8, false), (9, false)] (by kernel_rfl) (by kernel_rfl) rfl (by kernel_rfl) rfl ?_
  intro V0 hV0 hS0
  have HV0 := Lib.hid hV0
  clear hV0 hS0
  refine lexH_yieldE rfl rfl ?_
  apply Exists.intro
  refine ⟨fun W hW => ?_, ?_⟩
  focus (go_simp; exact rfl)
  simp only [List.getElem_toArray, List.getElem_cons_zero, Act.put, List.setIfInBounds_toArray, List.set_cons_zero, List.set_cons_succ]
  refine lexH_yieldE rfl rfl ?_
  apply Exists.intro
  refine ⟨fun W hW => ?_, ?_⟩
  focus (go_simp; exact rfl)
  simp only [List.getElem_toArray, List.getElem_cons_succ, List.getElem_cons_zero, Act.put, List.setIfInBounds_toArray, List.set_cons_zero, List.set_cons_succ]
  refine lexH_load rfl rfl _ _ rfl rfl L8.out ?_
  simp only [List.getElem_toArray, List.getElem_cons_succ, List.getElem_cons_zero, Act.put, List.setIfInBounds_toArray, List.set_cons_zero, List.set_cons_succ]
  refine lexH_conv rfl rfl _ _ _ rfl rfl V8.out ?_
  simp only [List.getElem_toArray, List.getElem_cons_succ, List.getElem_cons_zero, Act.put, List.setIfInBounds_toArray, List.set_cons_zero, List.set_cons_succ]
  refine lexH_yieldE rfl rfl ?_
  apply Exists.intro
  refine ⟨fun W hW => ?_, ?_⟩
  focus (go_simp; exact rfl)
  simp only [List.getElem_toArray, List.getElem_cons_succ, List.getElem_cons_zero, Act.put, List.setIfInBounds_toArray, List.set_cons_zero, List.set_cons_succ]
  refine lexH_yieldE rfl rfl ?_
  apply Exists.intro
  refine ⟨fun W hW => ?_, ?_⟩
  focus (go_simp; exact rfl)
  simp only [List.getElem_toArray, List.getElem_cons_succ, List.getElem_cons_zero, Act.put, List.setIfInBounds_toArray, List.set_cons_zero, List.set_cons_succ]
  refine lexH_load rfl rfl _ _ rfl rfl L9.out ?_
  simp only [List.getElem_toArray, List.getElem_cons_succ, List.getElem_cons_zero, Act.put, List.setIfInBounds_toArray, List.set_cons_zero, List.set_cons_succ]
  refine lexH_conv rfl rfl _ _ _ rfl rfl V9.out ?_
  simp only [List.getElem_toArray, List.getElem_cons_succ, List.getElem_cons_zero, Act.put, List.setIfInBounds_toArray, List.set_cons_zero, List.set_cons_succ]
  refine lexH_yieldE rfl rfl ?_
  apply Exists.intro
  refine ⟨fun W hW => ?_, ?_⟩
  focus (go_simp; exact rfl)
  simp only [List.getElem_toArray, List.getElem_cons_succ, List.getElem_cons_zero, Act.put, List.setIfInBounds_toArray, List.set_cons_zero, List.set_cons_succ]
  refine lexH_yieldE rfl rfl ?_
  apply Exists.intro
  refine ⟨fun W hW => ?_, ?_⟩
  focus (go_simp; exact rfl)
  simp only [List.getElem_toArray, List.getElem_cons_succ, List.getElem_cons_zero, Act.put, List.setIfInBounds_toArray, List.set_cons_zero, List.set_cons_succ]
  refine lexH_nil ?_
  have hV1 := HV0.out
  subst hV1
  clear L8 V8 L9 V9 k8 k9 HV0
  have hb := Lib.hid (Below.refl w3.heap.size w3).drew
  rw [← (Below.refl w3.heap.size w3).drew.cell (World.block_lt_of_cell? _ _ k0)] at k0
  rw [← (Below.refl w3.heap.size w3).drew.cell (World.block_lt_of_cell? _ _ k7)] at k7
  rw [← (Below.refl w3.heap.size w3).drew.cell (World.block_lt_of_cell? _ _ k10)] at k10
  have HB4 := Lib.hid (HB3.out.trans (hb.out.mono HB3.out.size))
  clear hb HB3
  generalize w3.drew = w4 at *
  have c7 : IntKind.u64.wrap (rights : Int) = rights := u64_nat (by omega)
  have HZ := Lib.hid HB4.out.size
  by_cases h1 : kind = 1
  · subst h1
    skip
    go_wp2_with (fail)
    go_ret3
    exact ⟨_, rfl, NumAt.nil _ _, HB4.out⟩
  have b1 : ((kind : Int) == 1) = false := by rw [beq_eq_false_iff_ne]; omega
  by_cases h2 : kind = 2
  · subst h2
    clear b1 h1
    go_wp2_with (fail)
    go_ret3
    refine ⟨_, rfl, NumAt.new w4 HZ.out (listN ⟨2, pid, node, page, count, addr, size, rights, pk, pm, handle⟩) _ _ rfl _ rfl, HB4.out.alloc HZ.out _⟩
  have b2 : ((kind : Int) == 2) = false := by rw [beq_eq_false_iff_ne]; omega
  by_cases h3 : kind = 3
  · subst h3
    clear b1 h1 b2 h2
    go_wp2_with (fail)
    go_ret3
    refine ⟨_, rfl, NumAt.new w4 HZ.out (listN ⟨3, pid, node, page, count, addr, size, rights, pk, pm, handle⟩) _ _ rfl _ rfl, HB4.out.alloc HZ.out _⟩
  have b3 : ((kind : Int) == 3) = false := by rw [beq_eq_false_iff_ne]; omega
  by_cases h4 : kind = 4
  · subst h4
    clear b1 h1 b2 h2 b3 h3
    go_wp2_with (fail)
    go_ret3
    refine ⟨_, rfl, NumAt.new w4 HZ.out (listN ⟨4, pid, node, page, count, addr, size, rights, pk, pm, handle⟩) _ _ rfl _ rfl, HB4.out.alloc HZ.out _⟩
  have b4 : ((kind : Int) == 4) = false := by rw [beq_eq_false_iff_ne]; omega
  by_cases h5 : kind = 5
  · subst h5
    clear b1 h1 b2 h2 b3 h3 b4 h4
    go_wp2_with (fail)
    go_ret3
    refine ⟨_, rfl, NumAt.new w4 HZ.out (listN ⟨5, pid, node, page, count, addr, size, rights, pk, pm, handle⟩) _ _ rfl _ rfl, HB4.out.alloc HZ.out _⟩
  have b5 : ((kind : Int) == 5) = false := by rw [beq_eq_false_iff_ne]; omega
  by_cases h6 : kind = 6
  · subst h6
    clear b1 h1 b2 h2 b3 h3 b4 h4 b5 h5
    go_wp2_with (fail)
    go_ret3
    refine ⟨_, rfl, NumAt.new w4 HZ.out (listN ⟨6, pid, node, page, count, addr, size, rights, pk, pm, handle⟩) _ _ rfl _ rfl, HB4.out.alloc HZ.out _⟩
  have b6 : ((kind : Int) == 6) = false := by rw [beq_eq_false_iff_ne]; omega
  by_cases h7 : kind = 7
  · subst h7
    clear b1 h1 b2 h2 b3 h3 b4 h4 b5 h5 b6 h6
    go_wp2_with (fail)
    go_ret3
    refine ⟨_, rfl, NumAt.new w4 HZ.out (listN ⟨7, pid, node, page, count, addr, size, rights, pk, pm, handle⟩) _ _ rfl _ rfl, HB4.out.alloc HZ.out _⟩
  have b7 : ((kind : Int) == 7) = false := by rw [beq_eq_false_iff_ne]; omega
  by_cases h8 : kind = 8
  · subst h8
    clear b1 h1 b2 h2 b3 h3 b4 h4 b5 h5 b6 h6 b7 h7
    go_wp2_with (fail)
    go_ret3
    refine ⟨_, rfl, NumAt.new w4 HZ.out (listN ⟨8, pid, node, page, count, addr, size, rights, pk, pm, handle⟩) _ _ rfl _ rfl, HB4.out.alloc HZ.out _⟩
  have b8 : ((kind : Int) == 8) = false := by rw [beq_eq_false_iff_ne]; omega
  by_cases h9 : kind = 9
  · subst h9
    clear b1 h1 b2 h2 b3 h3 b4 h4 b5 h5 b6 h6 b7 h7 b8 h8
    go_wp2_with (fail)
    go_ret3
    refine ⟨_, rfl, NumAt.new w4 HZ.out (listN ⟨9, pid, node, page, count, addr, size, rights, pk, pm, handle⟩) _ _ rfl _ rfl, HB4.out.alloc HZ.out _⟩
  have b9 : ((kind : Int) == 9) = false := by rw [beq_eq_false_iff_ne]; omega
  by_cases h10 : kind = 10
  · subst h10
    clear b1 h1 b2 h2 b3 h3 b4 h4 b5 h5 b6 h6 b7 h7 b8 h8 b9 h9
    go_wp2_with (fail)
    go_ret3
    refine ⟨_, rfl, NumAt.new w4 HZ.out (listN ⟨10, pid, node, page, count, addr, size, rights, pk, pm, handle⟩) _ _ rfl _ rfl, HB4.out.alloc HZ.out _⟩
  have b10 : ((kind : Int) == 10) = false := by rw [beq_eq_false_iff_ne]; omega
  by_cases h11 : kind = 11
  · subst h11
    clear b1 h1 b2 h2 b3 h3 b4 h4 b5 h5 b6 h6 b7 h7 b8 h8 b9 h9 b10 h10
    go_wp2_with (fail)
    go_ret3
    refine ⟨_, rfl, NumAt.new w4 HZ.out (listN ⟨11, pid, node, page, count, addr, size, rights, pk, pm, handle⟩) _ _ rfl _ rfl, HB4.out.alloc HZ.out _⟩
  have b11 : ((kind : Int) == 11) = false := by rw [beq_eq_false_iff_ne]; omega
  by_cases h12 : kind = 12
  · subst h12
    clear b1 h1 b2 h2 b3 h3 b4 h4 b5 h5 b6 h6 b7 h7 b8 h8 b9 h9 b10 h10 b11 h11
    go_wp2_with (fail)
    go_ret3
    refine ⟨_, rfl, NumAt.new w4 HZ.out (listN ⟨12, pid, node, page, count, addr, size, rights, pk, pm, handle⟩) _ _ rfl _ rfl, HB4.out.alloc HZ.out _⟩
  have b12 : ((kind : Int) == 12) = false := by rw [beq_eq_false_iff_ne]; omega
  by_cases h13 : kind = 13
  · subst h13
    clear b1 h1 b2 h2 b3 h3 b4 h4 b5 h5 b6 h6 b7 h7 b8 h8 b9 h9 b10 h10 b11 h11 b12 h12
    go_wp2_with (fail)
    go_ret3
    refine ⟨_, rfl, NumAt.new w4 HZ.out (listN ⟨13, pid, node, page, count, addr, size, rights, pk, pm, handle⟩) _ _ rfl _ rfl, HB4.out.alloc HZ.out _⟩
  have b13 : ((kind : Int) == 13) = false := by rw [beq_eq_false_iff_ne]; omega
  by_cases h14 : kind = 14
  · subst h14
    clear b1 h1 b2 h2 b3 h3 b4 h4 b5 h5 b6 h6 b7 h7 b8 h8 b9 h9 b10 h10 b11 h11 b12 h12 b13 h13
    go_wp2_with (fail)
    go_ret3
    refine ⟨_, rfl, NumAt.new w4 HZ.out (listN ⟨14, pid, node, page, count, addr, size, rights, pk, pm, handle⟩) _ _ rfl _ rfl, HB4.out.alloc HZ.out _⟩
  have b14 : ((kind : Int) == 14) = false := by rw [beq_eq_false_iff_ne]; omega
  by_cases h15 : kind = 15
  · subst h15
    clear b1 h1 b2 h2 b3 h3 b4 h4 b5 h5 b6 h6 b7 h7 b8 h8 b9 h9 b10 h10 b11 h11 b12 h12 b13 h13 b14 h14
    go_wp2_with (fail)
    go_ret3
    refine ⟨_, rfl, NumAt.new w4 HZ.out (listN ⟨15, pid, node, page, count, addr, size, rights, pk, pm, handle⟩) _ _ rfl _ rfl, HB4.out.alloc HZ.out _⟩
  have b15 : ((kind : Int) == 15) = false := by rw [beq_eq_false_iff_ne]; omega
  by_cases h16 : kind = 16
  · subst h16
    clear b1 h1 b2 h2 b3 h3 b4 h4 b5 h5 b6 h6 b7 h7 b8 h8 b9 h9 b10 h10 b11 h11 b12 h12 b13 h13 b14 h14 b15 h15
    go_wp2_with (fail)
    go_ret3
    refine ⟨_, rfl, NumAt.new w4 HZ.out (listN ⟨16, pid, node, page, count, addr, size, rights, pk, pm, handle⟩) _ _ rfl _ rfl, HB4.out.alloc HZ.out _⟩
  have b16 : ((kind : Int) == 16) = false := by rw [beq_eq_false_iff_ne]; omega
  by_cases h17 : kind = 17
  · subst h17
    clear b1 h1 b2 h2 b3 h3 b4 h4 b5 h5 b6 h6 b7 h7 b8 h8 b9 h9 b10 h10 b11 h11 b12 h12 b13 h13 b14 h14 b15 h15 b16 h16
    go_wp2_with (fail)
    go_ret3
    refine ⟨_, rfl, NumAt.new w4 HZ.out (listN ⟨17, pid, node, page, count, addr, size, rights, pk, pm, handle⟩) _ _ rfl _ rfl, HB4.out.alloc HZ.out _⟩
  have b17 : ((kind : Int) == 17) = false := by rw [beq_eq_false_iff_ne]; omega
  by_cases h18 : kind = 18
  · subst h18
    clear b1 h1 b2 h2 b3 h3 b4 h4 b5 h5 b6 h6 b7 h7 b8 h8 b9 h9 b10 h10 b11 h11 b12 h12 b13 h13 b14 h14 b15 h15 b16 h16 b17 h17
    go_wp2_with (fail)
    go_ret3
    refine ⟨_, rfl, NumAt.new w4 HZ.out (listN ⟨18, pid, node, page, count, addr, size, rights, pk, pm, handle⟩) _ _ rfl _ rfl, HB4.out.alloc HZ.out _⟩
  have b18 : ((kind : Int) == 18) = false := by rw [beq_eq_false_iff_ne]; omega
  by_cases h19 : kind = 19
  · subst h19
    clear b1 h1 b2 h2 b3 h3 b4 h4 b5 h5 b6 h6 b7 h7 b8 h8 b9 h9 b10 h10 b11 h11 b12 h12 b13 h13 b14 h14 b15 h15 b16 h16 b17 h17 b18 h18
    go_wp2_with (fail)
    go_ret3
    refine ⟨_, rfl, NumAt.new w4 HZ.out (listN ⟨19, pid, node, page, count, addr, size, rights, pk, pm, handle⟩) _ _ rfl _ rfl, HB4.out.alloc HZ.out _⟩
  have b19 : ((kind : Int) == 19) = false := by rw [beq_eq_false_iff_ne]; omega
  by_cases h20 : kind = 20
  · subst h20
    clear b1 h1 b2 h2 b3 h3 b4 h4 b5 h5 b6 h6 b7 h7 b8 h8 b9 h9 b10 h10 b11 h11 b12 h12 b13 h13 b14 h14 b15 h15 b16 h16 b17 h17 b18 h18 b19 h19
    go_wp2_with (fail)
    go_ret3
    refine ⟨_, rfl, NumAt.new w4 HZ.out (listN ⟨20, pid, node, page, count, addr, size, rights, pk, pm, handle⟩) _ _ rfl _ rfl, HB4.out.alloc HZ.out _⟩
  have b20 : ((kind : Int) == 20) = false := by rw [beq_eq_false_iff_ne]; omega
  by_cases h21 : kind = 21
  · subst h21
    clear b1 h1 b2 h2 b3 h3 b4 h4 b5 h5 b6 h6 b7 h7 b8 h8 b9 h9 b10 h10 b11 h11 b12 h12 b13 h13 b14 h14 b15 h15 b16 h16 b17 h17 b18 h18 b19 h19 b20 h20
    go_wp2_with (fail)
    go_ret3
    exact ⟨_, rfl, NumAt.nil _ _, HB4.out⟩
  have b21 : ((kind : Int) == 21) = false := by rw [beq_eq_false_iff_ne]; omega
  have HO := Lib.hid (show okK kind = false by unfold okK; rw [decide_eq_false_iff_not]; omega)
  have HH := Lib.hid (show hasK kind = false by unfold hasK; rw [decide_eq_false_iff_not]; omega)
  have HL := Lib.hid (show listN ⟨kind, pid, node, page, count, addr, size, rights, pk, pm, handle⟩ = [] by unfold listN; dsimp only; split <;> first | rfl | (exfalso; omega))
  clear h1 h2 h3 h4 h5 h6 h7 h8 h9 h10 h11 h12 h13 h14 h15 h16 h17 h18 h19 h20 h21
  go_wp2_with (fail)
  go_ret3
  show ListPost _ _ _ _
  unfold ListPost
  rw [HL.out, show okK (CallM.kind ⟨kind, pid, node, page, count, addr, size, rights, pk, pm, handle⟩) = false from HO.out, show hasK (CallM.kind ⟨kind, pid, node, page, count, addr, size, rights, pk, pm, handle⟩) = false from HH.out]
  exact ⟨_, rfl, NumAt.nil _ _, HB4.out⟩
end Go.Proofs.YtkmjkkeldbocdaaDoor

