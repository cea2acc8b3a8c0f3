/-
  frames: New.
-/
import Derived.Test.YtnjdcgjaffageaaFrRead
import Derived.Test.YtnjdcgjaffageaaAsk
import Derived.RegionTactic
import Derived.Deep.CutRange
import Derived.Deep.DeepCutAuto
import Derived.Deep.DeepFit
import Derived.Deep.OwnRows
namespace Go.Proofs.Ytnjdcgjaffageaa
open Go.RowKit Go

theorem fnew_no (A : Array Value) (g : Nat → Int) (w : World) (hA : Cfg A g) (hm : mayB g = false) :
    Calls Try.prog 11 #[.agg A] w fun e w' => e = .returned (.tuple #[.pointer none, .int .i64 2]) ∧ Below w.heap.size w w' := by
  have C0 := CfgAt.new w hA
  have HA := Lib.hid hA
  have HM := Lib.hid hm
  clear hA hm
  go_enter Try.func11, Try.ntmps11
  go_wp2_with (refine wpList_load_cfg rfl _ rfl _ rfl C0 ?_)
  refine (may_any A g _ HA.out).mono ?_
  rintro e w1 ⟨rfl, hb⟩
  rw [HM.out]
  have HB := Lib.hid hb
  clear hb
  go_wp2_with (fail)
  go_ret2
  exact ⟨rfl, ((Below.refl _ _).alloc (Nat.le_refl _) _).trans (HB.out.mono (by simp))⟩

theorem infoMark : (Try.prog.info? 64).map (fun i => (i.zero, i.size, i.bytes)) = some (some (.agg #[.int .u8 0, .int .i64 0, .int .i64 0, .int .i64 0, .int .i64 0]), 5, 40) := by kernel_rfl

/-- The first k marks have been laid. -/
def newK (k : Nat) (f : Nat) : Mk := if f < k then ⟨1, 0, 0, 0, 0⟩ else ⟨0, 0, 0, 0, 0⟩
theorem zero_marks (T : Nat) : ∀ i, i < T * 5 → (madeCells #[Value.int .u8 0, .int .i64 0, .int .i64 0, .int .i64 0, .int .i64 0] (T * 5))[i]? = some (mkV (newK 0) i) := by
  intro i hi
  have h := made_at #[Value.int .u8 0, .int .i64 0, .int .i64 0, .int .i64 0, .int .i64 0] (T * 5) i hi
  have h2 : mkV (newK 0) i = (#[Value.int .u8 0, .int .i64 0, .int .i64 0, .int .i64 0, .int .i64 0] : Array Value)[i % 5]! := by
    unfold mkV newK
    rw [if_neg (by omega)]
    have : i % 5 = 0 ∨ i % 5 = 1 ∨ i % 5 = 2 ∨ i % 5 = 3 ∨ i % 5 = 4 := by omega
    rcases this with e | e | e | e | e <;> rw [e] <;> rfl
  rw [h2]; simpa using h
theorem zero_bytes (n : Nat) : ∀ i, i < n → (madeCells #[Value.int .u8 0] n)[i]? = some (byV (fun _ => 0) i) := by
  intro i hi
  have h := made_at #[Value.int .u8 0] n i hi
  rw [show i % (#[Value.int .u8 0] : Array Value).size = 0 from Nat.mod_one i] at h
  rw [Array.getElem?_toList] at h
  exact h
theorem make_bytes (T : Nat) (hT : T ≤ 1024) : ∃ Z : Array Value, (∀ i, i < T * 256 → Z[i]? = some (byV (fun _ => 0) i)) ∧
    ∀ W, (Instr.makeSlice 56 (.int .i64 ((T : Int) * 256)) (.int .i64 ((T : Int) * 256))).run Try.prog W = .ok (.slice (some ⟨W.heap.size, 0, none⟩) (T * 256) (T * 256)) (W.alloc (.cells Z 5)) := by
  refine ⟨madeCells #[Value.int .u8 0] (T * 256), zero_bytes (T * 256), fun W => ?_⟩
  have h := run_make_row' (P := Try.prog) 56 5 (.int .u8 0) 1 Try.underlying56 infoByte rfl .i64 .i64 (T * 256) (by omega) (by omega) W
  rw [Int.natCast_mul] at h
  exact h
theorem make_marks (T : Nat) (hT : T ≤ 1024) : ∃ Z : Array Value, (∀ i, i < T * 5 → Z[i]? = some (mkV (newK 0) i)) ∧
    ∀ W, (Instr.makeSlice 57 (.int .i64 (T : Int)) (.int .i64 (T : Int))).run Try.prog W = .ok (.slice (some ⟨W.heap.size, 0, none⟩) T T) (W.alloc (.cells Z 64)) := by
  obtain ⟨i0, hi, hz0, hz1, hz2⟩ := info_parts infoMark
  refine ⟨madeCells #[Value.int .u8 0, .int .i64 0, .int .i64 0, .int .i64 0, .int .i64 0] (T * 5), zero_marks T, fun W => ?_⟩
  have h := run_make (P := Try.prog) W 57 64 i0 _ Try.underlying57 hi hz0 .i64 .i64 T T (by omega) (by omega) (by rw [hz2]; omega) (by omega)
  rw [hz1] at h
  simp only [Int.toNat_natCast] at h
  exact h

/-- What the region that makes a memory leaves. -/
def Born (w : World) (T : Nat) (v : Value) (w' : World) : Prop :=
  ∃ m bb kb, v = .pointer (some ⟨m, 0, none⟩) ∧ w.heap.size ≤ m ∧ w.heap.size ≤ bb ∧ w.heap.size ≤ kb ∧ bb ≠ m ∧ bb ≠ kb ∧ kb ≠ m ∧ m < w'.heap.size ∧
    w'.cell? ⟨m, 0, none⟩ = some (.slice none 0 0) ∧ w'.cell? ⟨m, 1, none⟩ = some (.slice (some ⟨bb, 0, none⟩) (T * 256) (T * 256)) ∧ w'.cell? ⟨m, 2, none⟩ = some (.slice (some ⟨kb, 0, none⟩) T T) ∧ w'.frozen? ⟨m, 0, none⟩ = false ∧
    RowAt w' bb (T * 256) (byV fun _ => 0) ∧ RowAt w' kb (T * 5) (mkV (newK 0)) ∧ Below w.heap.size w w'

theorem born_1 (w : World) (T : Nat) (Z1 Z2 : Array Value) (h1 : ∀ i, i < T * 256 → Z1[i]? = some (byV (fun _ => 0) i)) (h2 : ∀ i, i < T * 5 → Z2[i]? = some (mkV (newK 0) i)) :
    Born w T (.pointer (some ⟨w.heap.size + 1 + 1, 0, none⟩)) (((w.alloc (.cells Z1 5)).alloc (.cells Z2 64)).alloc (.cells #[.slice none 0 0, .slice (some ⟨w.heap.size, 0, none⟩) (T * 256) (T * 256), .slice (some ⟨w.heap.size + 1, 0, none⟩) T T] 59)).drew := by
  have hs1 : (w.alloc (.cells Z1 5)).heap.size = w.heap.size + 1 := by simp
  have r1 := RowAt.new w Z1 5 (T * 256) _ h1
  have r2 := RowAt.new (w.alloc (.cells Z1 5)) Z2 64 (T * 5) _ h2
  rw [hs1] at r2
  refine ⟨w.heap.size + 1 + 1, w.heap.size, w.heap.size + 1, rfl, by omega, by omega, by omega, by omega, by omega, by omega, by simp [World.drew], ?_, ?_, ?_, ?_, ?_, ?_, ?_⟩
  · simp [go_sem]
  · simp [go_sem]
  · simp [go_sem]
  · simp [go_sem]
  · exact ((r1.alloc _).alloc _).block rfl
  · exact (r2.alloc _).block rfl
  · exact ((((Below.refl _ w).alloc (Nat.le_refl _) _).alloc (by simp) _).alloc (by simp; omega) _).drew
theorem born_2 (w : World) (T : Nat) (Z1 Z2 : Array Value) (h1 : ∀ i, i < T * 256 → Z1[i]? = some (byV (fun _ => 0) i)) (h2 : ∀ i, i < T * 5 → Z2[i]? = some (mkV (newK 0) i)) :
    Born w T (.pointer (some ⟨w.heap.size + 1 + 1, 0, none⟩)) (((w.alloc (.cells Z2 64)).alloc (.cells Z1 5)).alloc (.cells #[.slice none 0 0, .slice (some ⟨w.heap.size + 1, 0, none⟩) (T * 256) (T * 256), .slice (some ⟨w.heap.size, 0, none⟩) T T] 59)).drew := by
  have hs1 : (w.alloc (.cells Z2 64)).heap.size = w.heap.size + 1 := by simp
  have r2 := RowAt.new w Z2 64 (T * 5) _ h2
  have r1 := RowAt.new (w.alloc (.cells Z2 64)) Z1 5 (T * 256) _ h1
  rw [hs1] at r1
  refine ⟨w.heap.size + 1 + 1, w.heap.size + 1, w.heap.size, rfl, by omega, by omega, by omega, by omega, by omega, by omega, by simp [World.drew], ?_, ?_, ?_, ?_, ?_, ?_, ?_⟩
  · simp [go_sem]
  · simp [go_sem]
  · simp [go_sem]
  · simp [go_sem]
  · exact (r1.alloc _).block rfl
  · exact ((r2.alloc _).alloc _).block rfl
  · exact ((((Below.refl _ w).alloc (Nat.le_refl _) _).alloc (by simp) _).alloc (by simp; omega) _).drew

/-- The numbers of the first frames, laid so far. -/
def startL (g : Nat → Int) (k : Nat) : List Value := (List.range k).map fun i => Value.int .i64 (sumF g i)
theorem startL_snoc (g : Nat → Int) (k : Nat) : startL g (k + 1) = startL g k ++ [Value.int .i64 (sumF g k)] := by
  simp [startL, List.range_succ]

/-- A memory on its way, whose nodes are being laid: v is what its starts are so far, k of them. -/
structure Nw (w : World) (A : Array Value) (g : Nat → Int) (T m bb kb B k : Nat) (v : Value) (wr : World) : Prop where
  cfg : CfgAt wr w.heap.size A g
  c0 : wr.cell? ⟨m, 0, none⟩ = some v
  f0 : wr.frozen? ⟨m, 0, none⟩ = false
  own : wr.ownsRow B 3 1 v k (startL g k)
  c1 : wr.cell? ⟨m, 1, none⟩ = some (.slice (some ⟨bb, 0, none⟩) (T * 256) (T * 256))
  c2 : wr.cell? ⟨m, 2, none⟩ = some (.slice (some ⟨kb, 0, none⟩) T T)
  bytes : RowAt wr bb (T * 256) (byV fun _ => 0)
  marks : RowAt wr kb (T * 5) (mkV (newK 0))
  l1 : w.heap.size < m
  l2 : w.heap.size < bb
  l3 : w.heap.size < kb
  u1 : m < B
  u2 : bb < B
  u3 : kb < B
  u4 : B ≤ wr.heap.size
  d1 : bb ≠ m
  d2 : bb ≠ kb
  d3 : kb ≠ m
  bel : Below w.heap.size w wr

/-- Nothing that lay there turns. -/
theorem Nw.later {w : World} {A : Array Value} {g : Nat → Int} {T m bb kb B k : Nat} {v : Value} {wr w' : World} (N : Nw w A g T m bb kb B k v wr) (h : Below wr.heap.size wr w') : Nw w A g T m bb kb B k v w' := by
  have hc : ∀ {o u}, wr.cell? ⟨m, o, none⟩ = some u → w'.cell? ⟨m, o, none⟩ = some u := fun {o u} hv => by
    rw [h.cell (World.block_lt_of_cell? _ _ hv)]; exact hv
  have u1 := N.u1
  have u4 := N.u4
  refine ⟨N.cfg.later h, hc N.c0, ?_, N.own.kept (row := none) ⟨h.os, h.tape, h.output, h.size, fun k hk _ => h.block k hk⟩ ?_, hc N.c1, hc N.c2, N.bytes.later h, N.marks.later h, N.l1, N.l2, N.l3, N.u1, N.u2, N.u3, Nat.le_trans N.u4 h.size, N.d1, N.d2, N.d3, N.bel.trans (h.mono ?_)⟩
  · rw [h.frozen (p := ⟨m, 0, none⟩) (show m < wr.heap.size by omega)]; exact N.f0
  · cases hv : v.ownBlock with
    | none => exact .inl rfl
    | some b => exact .inr (by simp)
  · have := N.bel.size; omega

/-- One number more has been appended, and laid in its field. -/
theorem Nw.step {w : World} {A : Array Value} {g : Nat → Int} {T m bb kb B k : Nat} {v v' : Value} {wr w' : World} (N : Nw w A g T m bb kb B k v wr) (hown : w'.ownsRow B 3 1 v' (k + 1) (startL g k ++ [Value.int .i64 (sumF g k)])) (hg : wr.grownBy w' v.ownBlock) :
    Nw w A g T m bb kb B (k + 1) v' (w'.setCell ⟨m, 0, none⟩ v') := by
  have hlo : ∀ j, j < B → j ≠ m → (w'.setCell ⟨m, 0, none⟩ v').heap[j]? = wr.heap[j]? := fun j hj hne => by
    rw [Below.heap_setCell _ _ _ _ hne]
    refine hg.block j (by have := N.u4; omega) (fun e => ?_)
    have := (N.own.lt j e.symm).1
    omega
  have hme : some m ≠ v.ownBlock := fun e => by
    have := (N.own.lt m e.symm).1
    have := N.u1
    omega
  have hm0 : w'.cell? ⟨m, 0, none⟩ = some v := hg.cell N.c0 hme
  have hmc : ∀ {o u}, o ≠ 0 → wr.cell? ⟨m, o, none⟩ = some u → (w'.setCell ⟨m, 0, none⟩ v').cell? ⟨m, o, none⟩ = some u := fun {o u} ho hv => by
    rw [World.cell?_setCell_other _ _ _ _ (by intro e; cases e; exact ho rfl)]
    exact hg.cell hv hme
  have u1 := N.u1
  have u4 := N.u4
  have l1 := N.l1
  have l2 := N.l2
  have l3 := N.l3
  refine ⟨⟨N.cfg.cfg, ?_⟩, World.cell?_setCell_same _ _ _ hm0, ?_, ?_, hmc (by decide) N.c1, hmc (by decide) N.c2, N.bytes.block (hlo _ N.u2 N.d1), N.marks.block (hlo _ N.u3 N.d3), N.l1, N.l2, N.l3, N.u1, N.u2, N.u3, ?_, N.d1, N.d2, N.d3, ?_⟩
  · rw [hlo _ (by omega) (by omega)]; exact N.cfg.block
  · rw [World.frozen?_setCell]
    rw [World.frozen?_of_block (w := wr) (a := ⟨m, 0, none⟩) (hg.block m (by omega) hme)]
    exact N.f0
  · rw [startL_snoc]
    exact ownsRow_setCell_below hown (a := ⟨m, 0, none⟩) u1 v'
  · have := hg.size
    simp [World.setCell]; omega
  · have h1 : Below w.heap.size w w' := N.bel.grown hg (by have := N.bel.size; omega) (fun j hj => by have := (N.own.lt j hj).1; omega)
    exact h1.setCell (p := ⟨m, 0, none⟩) (show w.heap.size ≤ m by omega) v'

theorem Nw.field {w : World} {A : Array Value} {g : Nat → Int} {T m bb kb B k : Nat} {v : Value} {wr w' : World} (N : Nw w A g T m bb kb B k v wr) (hg : wr.grownBy w' v.ownBlock) :
    w'.cell? ⟨m, 0, none⟩ = some v ∧ w'.frozen? ⟨m, 0, none⟩ = false := by
  have hme : some m ≠ v.ownBlock := fun e => by
    have := (N.own.lt m e.symm).1
    have := N.u1
    omega
  refine ⟨hg.cell N.c0 hme, ?_⟩
  rw [World.frozen?_of_block (w := wr) (a := ⟨m, 0, none⟩) (hg.block m (by have := N.u1; have := N.u4; omega) hme)]
  exact N.f0
theorem own_slice {w : World} {B : Nat} {e : TypeId} {k : Nat} {v : Value} {xs : List Value} (h : w.ownsRow B e 1 v (k + 1) xs) : ∃ g cap, v = .slice (some ⟨g, 0, none⟩) (k + 1) cap := by
  obtain ⟨_, ⟨_, h⟩ | ⟨g, cap, _, h, _⟩⟩ := h
  · omega
  · exact ⟨g, cap, h⟩
theorem one_cellF (k : IntKind) (x : Int) : ∀ u, u ∈ [Value.int k x] → u.oneCell' = true := by
  intro u h; simp at h; subst h; rfl
theorem one_new (w : World) (x : Value) (t : TypeId) : ∀ j u, [x][j]? = some u → (w.alloc (.cells #[x] t)).cell? ((⟨w.heap.size, 0, none⟩ : Addr).add j) = some u := by
  intro j u h
  cases j with
  | zero => simp at h; subst h; simp [go_sem]
  | succ j => simp at h

theorem Nw.start {w w2 : World} {A : Array Value} {g : Nat → Int} {T : Nat} {s : Value} {wc : World} (C : CfgAt w2 w.heap.size A g) (hb : Below w.heap.size w w2) (h : Born w2 T s wc) :
    ∃ m bb kb, s = .pointer (some ⟨m, 0, none⟩) ∧ Nw w A g T m bb kb wc.heap.size 0 (.slice none 0 0) wc := by
  obtain ⟨m, bb, kb, rfl, g1, g2, g3, d1, d2, d3, lt, c0, c1, c2, f0, r1, r2, bel⟩ := h
  have hlt := C.lt
  exact ⟨m, bb, kb, rfl, C.later bel, c0, f0, World.ownsRow_nil _ _ _ _, c1, c2, r1, r2, by omega, by omega, by omega, lt, r1.lt, r2.lt, Nat.le_refl _, d1, d2, d3, hb.trans (bel.mono (by omega))⟩

theorem infoInt : (Try.prog.info? 3).map (fun i => (i.zero, i.size, i.bytes)) = some (some (.int .i64 0), 1, 8) := by kernel_rfl
/-- Where the nodes begin. -/
def stN (g : Nat → Int) (i : Nat) : Nat := (sumF g i).toNat
theorem stN_int {g : Nat → Int} {n : Nat} (G : Good g) (hn : g 0 = n) (i : Nat) (hi : i ≤ n) : ((stN g i : Nat) : Int) = sumF g i := by
  have := (sumF_bd g i (fun j hj => by have := G.frames j (by omega); omega)).1
  unfold stN; omega

/-- The starts are whole: a memory lies there. -/
theorem Nw.whole {w : World} {A : Array Value} {g : Nat → Int} {T m bb kb B n : Nat} {v : Value} {wr : World} (N : Nw w A g T m bb kb B (n + 1) v wr) (G : Good g) (hn : g 0 = n) (hT : sumF g n = T) (hT1 : T ≤ 1024) :
    ∃ sb, w.heap.size ≤ sb ∧ MemAt wr ⟨m, sb, bb, kb, n, T⟩ (stN g) (fun _ => 0) (newK 0) := by
  have n1 := G.n1
  have n8 := G.n2
  have hfr : ∀ j, j < n → 4 ≤ g (18 + j) ∧ g (18 + j) ≤ 128 := fun j hj => G.frames j (by omega)
  obtain ⟨sb, cap, rfl, hb, _, _, R⟩ := RowAt.of_owns N.own (stV (stN g)) (fun i hi => by
    rw [Nat.mul_one] at hi
    unfold startL stV
    rw [List.getElem?_map, List.getElem?_range hi, stN_int G hn i (by omega)]; rfl) (by
    intro e; subst e
    obtain ⟨_, ⟨_, h⟩ | ⟨_, _, _, h, _⟩⟩ := N.own
    · omega
    · cases h)
  rw [Nat.mul_one] at R
  have u2 := N.u2
  have u3 := N.u3
  have hmono := sumF_mono g n (fun j hj => by have := hfr j hj; omega)
  have hT4 : 4 ≤ T := by
    have h1 := hmono (n - 1) 1 (by omega)
    rw [show 1 + (n - 1) = n by omega, hT] at h1
    have h2 := hfr 0 (by omega)
    have h3 : sumF g 1 = 0 + g (18 + 0) := rfl
    omega
  have l1 := N.l1
  have u1 := N.u1
  refine ⟨sb, by omega, ⟨cap, N.c0⟩, ⟨_, Nat.le_refl _, N.c1⟩, ⟨_, Nat.le_refl _, N.c2⟩, R, N.bytes, N.marks, fun i hi => ?_, by show n ≤ 8; omega, hT4, hT1, N.d1, by show bb ≠ sb; omega, N.d2, N.d3, by show kb ≠ sb; omega⟩
  have hi' : i < n := hi
  have h1 := stN_int G hn i (by omega)
  have h2 := stN_int G hn (i + 1) (by omega)
  have h3 : sumF g (i + 1) = sumF g i + g (18 + i) := rfl
  have h4 := hfr i hi'
  have h5 := hmono (n - (i + 1)) (i + 1) (by omega)
  rw [show i + 1 + (n - (i + 1)) = n by omega, hT] at h5
  show stN g i < stN g (i + 1) ∧ stN g (i + 1) ≤ T
  omega

theorem newK_step (T k : Nat) : ∀ i, i < T * 5 → updV (mkV (newK k)) (k * 5) (.int .u8 1) i = mkV (newK (k + 1)) i := by
  intro i _
  unfold updV mkV newK
  by_cases h : i = k * 5
  · subst h
    rw [if_pos rfl, Nat.mul_div_cancel _ (by decide), if_pos (by omega), Nat.mul_mod_left]; rfl
  · rw [if_neg h]
    by_cases h1 : i / 5 < k
    · rw [if_pos h1, if_pos (by omega)]
    · rw [if_neg h1]
      by_cases h2 : i / 5 < k + 1
      · rw [if_pos h2]
        have : i % 5 = 1 ∨ i % 5 = 2 ∨ i % 5 = 3 ∨ i % 5 = 4 := by omega
        rcases this with e | e | e | e <;> rw [e] <;> rfl
      · rw [if_neg h2]
theorem newK_at (k : Nat) : mkV (newK k) (k * 5) = .int .u8 0 := by
  unfold mkV newK
  rw [Nat.mul_div_cancel _ (by decide), if_neg (by omega), Nat.mul_mod_left]; rfl

/-- What New leaves. -/
def MadeAt (w : World) (g : Nat → Int) (e : Ending) (w' : World) : Prop :=
  ∃ M : MB, e = .returned (.tuple #[.pointer (some ⟨M.m, 0, none⟩), .int .i64 0]) ∧ MemAt w' M (stN g) (fun _ => 0) (fun _ => ⟨1, 0, 0, 0, 0⟩) ∧ g 0 = M.n ∧ totalI g = M.T ∧
    w.heap.size ≤ M.m ∧ w.heap.size ≤ M.sb ∧ w.heap.size ≤ M.bb ∧ w.heap.size ≤ M.kb ∧ Below w.heap.size w w'

set_option maxHeartbeats 1000000 in
theorem fnew_ok (A : Array Value) (g : Nat → Int) (T : Nat) (w : World) (hA : Cfg A g) (G : Good g) (hT : totalI g = T) (hT1 : T ≤ 1024) :
    Calls Try.prog 11 #[.agg A] w (MadeAt w g) := by
  have hm := (good_iff g).2 G
  have C0 := CfgAt.new w hA
  have HA := Lib.hid hA
  have HM := Lib.hid hm
  have HT := Lib.hid hT
  obtain ⟨Z1, hZ1, hm1⟩ := make_bytes T hT1
  obtain ⟨Z2, hZ2, hm2⟩ := make_marks T hT1
  have HZ1 := Lib.hid hZ1
  have HZ2 := Lib.hid hZ2
  clear hA hm hT hZ1 hZ2
  go_enter Try.func11, Try.ntmps11
  go_wp2_with (refine wpList_load_cfg rfl _ rfl _ rfl C0 ?_)
  refine (may_any A g _ HA.out).mono ?_
  rintro e w1 ⟨rfl, hb⟩
  rw [HM.out]
  have C1 := C0.later hb
  have hB1 := ((Below.refl _ w).alloc (Nat.le_refl _) _).trans (hb.mono (by simp))
  have HB1 := Lib.hid hB1
  clear hb C0 hB1
  go_wp2_with (refine wpList_load_cfg rfl _ rfl _ rfl C1 ?_)
  refine (total_any A g w1 HA.out).mono ?_
  rintro e w2 ⟨rfl, hb⟩
  rw [HT.out]
  have C2 := C1.later hb
  have HB2 := Lib.hid (HB1.out.trans (hb.mono HB1.out.size))
  clear hb C1
  go_upto_region 4 with (fail)
  go_cut [5] (fun s5 wc => Born w2 T s5 wc)
  case first =>
    go_region
    all_goals
      go_wp2_with (fail)
      go_meet
      first | exact born_1 w2 T Z1 Z2 HZ1.out HZ2.out | exact born_2 w2 T Z1 Z2 HZ1.out HZ2.out
  case rest =>
    obtain ⟨m, bb, kb, rfl, N0⟩ := Nw.start C2 HB2.out hcut
    obtain ⟨n, hn⟩ := Int.eq_ofNat_of_zero_le (show 0 ≤ g 0 by have := G.n1; omega)
    obtain ⟨i0, hi, hz0, hz1, hz2⟩ := info_parts infoInt
    have hn8 : n ≤ 8 := by have := G.n2; omega
    have HN := Lib.hid hn
    have HG := Lib.hid G
    have hc0 := N0.cfg.cell 0 (by decide)
    rw [hn] at hc0
    have HU1 := Lib.hid N0.u1
    generalize hB : wc.heap.size = B at N0
    clear hcut hm1 hm2 HZ1 HZ2 C2 HB2 hB G hn
    go_wp2_with (fail)
    go_loopw [24] (fun i wr => ∃ (k : Nat) (v : Value), k ≤ n ∧ i = .int .i64 k ∧ Nw w A g T m bb kb B k v wr) (fun i _ => n - (intOf i).toNat)
    case atStart => exact ⟨0, _, Nat.zero_le _, rfl, N0⟩
    case round =>
      obtain ⟨k, v, hk, rfl, N⟩ := hrel
      by_cases hlt : k < n
      · have C := N.cfg
        go_wp2_with (refine wpList_load_cfg rfl _ rfl _ rfl C ?_)
        refine (first_any A g k _ HA.out).mono ?_
        rintro e w3 ⟨rfl, hb3⟩
        have hfs : firstI g k = sumF g k := by
          unfold firstI
          rw [if_pos (ask_zero.2 ⟨HG.out, by omega, by rw [HN.out]; omega⟩)]; rfl
        rw [hfs]
        have N3 := N.later hb3
        have h0 := N3.c0
        have HN3 := Lib.hid N3
        have HZ1' := Lib.hid hz1
        clear hb3 hfs C N N3
        go_wp2_with (at_builtin; refine wpList_append_own _ rfl _ _ 32 rfl B 3 i0 (.int .i64 0) 1 8 Try.underlying32 hi hz0 hz1 hz2 rfl (by decide) _ _ _ rfl (HN3.out.own.alloc _) ⟨w3.heap.size, 0, none⟩ 1 1 [Value.int .i64 (sumF g k)] rfl rfl (one_new w3 _ _) ?q3 ?q4 ?q5 ?q6 ?_)
        case q3 => exact one_cellF _ _
        case q4 => unfold maxLen; omega
        case q5 => omega
        case q6 => have := HN3.out.u4; simp; omega
        intro v' w4 hown hgr hnil
        obtain ⟨g4, cap4, rfl⟩ := own_slice hown
        have N4 := HN3.out.later ((Below.refl _ w3).alloc (Nat.le_refl _) (.cells #[Value.int .i64 (sumF g k)] 3))
        obtain ⟨h4, h5⟩ := N4.field hgr
        have HS := Lib.hid (N4.step hown hgr)
        clear hown hgr hnil N4 h0
        go_wp2_with (fail)
        go_roundw
        case rel => exact ⟨k + 1, _, hlt, by go_num, HS.out⟩
        case measure => simp [intOf]; omega
      · obtain rfl : k = n := by omega
        have hsn : sumF g k = T := by
          have h1 := HT.out
          unfold totalI at h1
          rw [if_pos HM.out, HN.out] at h1
          exact h1
        have HSN := Lib.hid hsn
        have h0 := N.c0
        have HN3 := Lib.hid N
        clear hsn N
        go_wp2_with (at_builtin; refine wpList_append_own _ rfl _ _ 32 rfl B 3 i0 (.int .i64 0) 1 8 Try.underlying32 hi hz0 hz1 hz2 rfl (by decide) _ _ _ rfl (HN3.out.own.alloc _) ⟨wr.heap.size, 0, none⟩ 1 1 [Value.int .i64 T] rfl rfl (one_new wr _ _) ?q3 ?q4 ?q5 ?q6 ?_)
        case q3 => exact one_cellF _ _
        case q4 => unfold maxLen; omega
        case q5 => omega
        case q6 => have := HN3.out.u4; simp; omega
        intro v' w4 hown hgr hnil
        rw [← HSN.out] at hown
        obtain ⟨g4, cap4, rfl⟩ := own_slice hown
        have N4 := HN3.out.later ((Below.refl _ wr).alloc (Nat.le_refl _) (.cells #[Value.int .i64 T] 3))
        obtain ⟨h4, h5⟩ := N4.field hgr
        have N5 := N4.step hown hgr
        obtain ⟨sb, hsb, H5⟩ := N5.whole HG.out HN.out HSN.out hT1
        have HB5 := Lib.hid N5.bel
        have L1 := Lib.hid N5.l1
        have L2 := Lib.hid N5.l2
        have L3 := Lib.hid N5.l3
        obtain ⟨k2, _, hk2⟩ := H5.c2
        have HH5 := Lib.hid H5
        clear hown hgr hnil N4 h0 N5 H5 HN3 N0 hc0
        go_wp2_with (fail)
        generalize w4.setCell ⟨m, 0, none⟩ (.slice (some ⟨g4, 0, none⟩) (k + 1) cap4) = W5 at *
        go_loopw [59] (fun i wr => ∃ j : Nat, j ≤ T ∧ i = .int .i64 j ∧ MemAt wr ⟨m, sb, bb, kb, k, T⟩ (stN g) (fun _ => 0) (newK j) ∧ Below w.heap.size w wr) (fun i _ => T - (intOf i).toNat)
        case atStart => exact ⟨0, Nat.zero_le _, rfl, HH5.out, HB5.out⟩
        case round =>
          obtain ⟨j, hj, rfl, H, hbel⟩ := hrel
          have HH := Lib.hid H
          have HB := Lib.hid hbel
          clear hbel hk2
          by_cases hlt2 : j < T
          · obtain ⟨k3, hk3, h3⟩ := H.c2
            dsimp only at h3 hk3
            have c3 := H.marks.cell (j * 5) (by show j * 5 < T * 5; omega)
            have f3 := H.marks.frozen (j * 5)
            rw [newK_at] at c3
            dsimp only at c3 f3
            have HS := Lib.hid (H.marked (Only.setCell _ ⟨kb, j * 5, none⟩ rfl _) ((H.marks.setCell (j * 5) (.int .u8 1)).ext (newK_step T j)))
            clear H
            go_wp2_with (fail)
            go_roundw
            case rel => exact ⟨j + 1, hlt2, by go_num, HS.out, HB.out.setCell (p := ⟨kb, j * 5, none⟩) (Nat.le_of_lt L3.out) _⟩
            case measure => simp [intOf]; omega
          · obtain rfl : j = T := by omega
            clear H
            go_wp2_with (fail)
            go_ret2
            refine ⟨⟨m, sb, bb, kb, k, j⟩, rfl, ?_, HN.out, HT.out, ?_, hsb, ?_, ?_, HB.out⟩
            · have H := HH.out
              exact ⟨H.c0, H.c1, H.c2, H.starts, H.bytes, H.marks.ext (fun i hi => by
                unfold mkV newK
                rw [if_pos (by have : i < j * 5 := hi; omega)]), H.st, H.n8, H.T4, H.T1, H.d1, H.d2, H.d3, H.d4, H.d5⟩
            · exact Nat.le_of_lt L1.out
            · exact Nat.le_of_lt L2.out
            · exact Nat.le_of_lt L3.out
end Go.Proofs.Ytnjdcgjaffageaa
