/-
  calls' laws: what is read, whatever it is; bytes from wherever they come.
-/
import Derived.Test.YtkmjkkeldbocdaaDoorCsLawResults
import Derived.Test.YtkmjkkeldbocdaaDoorCsNil
namespace Go.Proofs.YtkmjkkeldbocdaaDoor
open Go.RowKit Go

/-- What bytes are read as. -/
def rdQ (x : Nat → UInt8) (n : Nat) : CallM := if okC x n then qX x n (numX x n 0) else q0 0
def rdM (x : Nat → UInt8) (n : Nat) : Nat := if okC x n then mT (numX x n 0) n else 0
def rdY (x : Nat → UInt8) (n : Nat) : Nat → UInt8 := shX x (atK (numX x n 0) + 8)
def erB (b : Bool) : Int := if b then 0 else 5
theorem rdP_val {w w' : World} {n : Nat} {x : Nat → UInt8} {e : Ending} (h : RdP w n x e w') :
    ∃ a c, e = .returned (.tuple #[.agg ((rdQ x n).cells a (rdM x n) c), .int .i64 (erB (okC x n))]) ∧ Src w' a (rdM x n) (rdY x n) ∧ Below w.heap.size w w' := by
  unfold rdQ rdM rdY erB
  rcases h with ⟨h, a, c, rfl, hs, hb⟩ | ⟨h, rfl, hb⟩
  · rw [h, if_pos rfl, if_pos rfl, if_pos rfl]
    exact ⟨a, c, rfl, hs, hb⟩
  · rw [h, if_neg (by decide), if_neg (by decide), if_neg (by decide)]
    exact ⟨none, 0, rfl, Src.nil _ _ _, hb⟩
def rrE (x : Nat → UInt8) (n : Nat) : Int := if okX x n then (numX x n 0 : Int) else 0
def rrV (x : Nat → UInt8) (n : Nat) : Nat := if okX x n then numX x n 8 else 0
def rrM (x : Nat → UInt8) (n : Nat) : Nat := if okX x n then n - 24 else 0
theorem rrP_val {w w' : World} {n : Nat} {x : Nat → UInt8} {e : Ending} (h : RrP w n x e w') :
    ∃ a c, e = .returned (.tuple #[rsV (rrE x n) (rrV x n) a (rrM x n) c, .int .i64 (erB (okX x n))]) ∧ Src w' a (rrM x n) (shX x 24) ∧ Below w.heap.size w w' := by
  unfold rrE rrV rrM erB
  rcases h with ⟨h, a, c, rfl, hs, hb⟩ | ⟨h, rfl, hb⟩
  · rw [h, if_pos rfl, if_pos rfl, if_pos rfl, if_pos rfl]
    exact ⟨a, c, rfl, hs, hb⟩
  · rw [h, if_neg (by decide), if_neg (by decide), if_neg (by decide), if_neg (by decide)]
    exact ⟨none, 0, rfl, Src.nil _ _ _, hb⟩
theorem BytIn.later {w w' : World} {a : Option Addr} {n c : Nat} {x : Nat → UInt8} (h : BytIn w a n c x) (hb : Below w.heap.size w w') : BytIn w' a n c x := ⟨h.1.later hb, h.2⟩
/-- The document's Read, ReadResult. -/
theorem read_in {w : World} {a : Option Addr} {n c : Nat} {x : Nat → UInt8} (h : BytIn w a n c x) (hn : n ≤ 2030) : Calls Tryd.prog 19 #[.slice a n c] w (RdP w n x) := by
  obtain ⟨S, h1, h2, rfl | ⟨g, o, rfl⟩⟩ := h
  · exact read_nil a c x w
  · exact read_ok g o n c x hn w S h1
theorem rread_in {w : World} {a : Option Addr} {n c : Nat} {x : Nat → UInt8} (h : BytIn w a n c x) (hn : n ≤ 2030) : Calls Tryd.prog 21 #[.slice a n c] w (RrP w n x) := by
  obtain ⟨S, h1, h2, rfl | ⟨g, o, rfl⟩⟩ := h
  · exact rread_nil a c x w
  · exact rread_ok g o n c x (by omega) w S h1 h2
theorem CsOk.readB {P : World → Prop} (ok : CsOk P) {w : World} {a : Option Addr} {n c : Nat} {x : Nat → UInt8} (hP : P w) (h : BytIn w a n c x) (hn : n ≤ 2030) : Calls Tryd.prog 17 #[.slice a n c] w (RdP w n x) := by
  obtain ⟨S, h1, h2, rfl | ⟨g, o, rfl⟩⟩ := h
  · exact ok.read0 hP
  · exact ok.read hP hn h1 h2 S
theorem CsOk.readrB {P : World → Prop} (ok : CsOk P) {w : World} {a : Option Addr} {n c : Nat} {x : Nat → UInt8} (h : BytIn w a n c x) (hn : n ≤ 2030) : Calls Tryd.prog 20 #[.slice a n c] w (RrP w n x) := by
  obtain ⟨S, h1, h2, rfl | ⟨g, o, rfl⟩⟩ := h
  · exact ok.readr0
  · exact ok.readr hn h1 h2 S
/-- A byte behind others. -/
theorem lisX_snoc (x : Nat → UInt8) (n : Nat) (b : UInt8) : lisX (fun i => if i < n then x i else b) (n + 1) = lisX x n ++ [b] := by
  unfold lisX
  rw [List.range_succ, List.map_append]
  congr 1
  · exact List.map_congr_left fun i hi => by rw [if_pos (List.mem_range.1 hi)]
  · simp
theorem one_src (W : World) (b : UInt8) : 0 < 1 → ∃ ad, some (⟨W.heap.size, 0, none⟩ : Addr) = some ad ∧ ∀ j u, [Value.int .u8 (b.toNat : Int)][j]? = some u → (W.alloc (.cells #[.int .u8 (b.toNat : Int)] 5)).cell? (ad.add j) = some u := fun _ => ⟨_, rfl, fun j u hj => by
  match j, hj with
  | 0, hj =>
    simp at hj
    subst hj
    rw [Addr.add_lit, Nat.zero_add, cell_of_row _ _ _ _ _ _ (heap_alloc_new W _)]
    rfl
  | j + 1, hj => simp at hj⟩
/-- What two appends leave: the bytes, and one behind them. -/
structure Snoc (w : World) (n : Nat) (x : Nat → UInt8) (b : UInt8) (g cap : Nat) (W : World) : Prop where
  byt : BytAt w.heap.size (lisX x n ++ [b]) (.slice (some ⟨g, 0, none⟩) (n + 1) cap) W
  le : n + 1 ≤ cap
  cap : cap ≤ maxLen
  base : w.heap.size ≤ g
  bel : Below w.heap.size w W
theorem Snoc.later {w : World} {n : Nat} {x : Nat → UInt8} {b : UInt8} {g cap : Nat} {W W' : World} (h : Snoc w n x b g cap W) (hb : Below W.heap.size W W') : Snoc w n x b g cap W' :=
  ⟨h.byt.later hb, h.le, h.cap, h.base, h.bel.trans (hb.mono h.bel.size)⟩
theorem Snoc.src {w : World} {n : Nat} {x : Nat → UInt8} {b : UInt8} {g cap : Nat} {W : World} (h : Snoc w n x b g cap W) : Src W (some ⟨g, 0, none⟩) (n + 1) (fun i => if i < n then x i else b) := by
  have h1 := h.byt
  rw [← lisX_snoc] at h1
  exact src_byt h1
theorem Snoc.all {w : World} {n : Nat} {x : Nat → UInt8} {b : UInt8} {g cap : Nat} {W : World} (h : Snoc w n x b g cap W) : BytIn W (some ⟨g, 0, none⟩) (n + 1) cap (fun i => if i < n then x i else b) :=
  ⟨h.src, h.le, h.cap, .inr ⟨g, 0, rfl⟩⟩
theorem Snoc.part {w : World} {n : Nat} {x : Nat → UInt8} {b : UInt8} {g cap : Nat} {W : World} (h : Snoc w n x b g cap W) : BytIn W (some ⟨g, 0, none⟩) n cap x := by
  refine ⟨fun h0 => ?_, by have := h.le; omega, h.cap, .inr ⟨g, 0, rfl⟩⟩
  obtain ⟨ad, e, hc⟩ := h.src (by omega)
  refine ⟨ad, e, fun j hj => ?_⟩
  rw [hc j (by omega)]
  show some (Value.int .u8 (((if j < n then x j else b) : UInt8).toNat : Int)) = some (Value.int .u8 ((x j).toNat : Int))
  rw [if_pos hj]
theorem Snoc.last {w : World} {n : Nat} {x : Nat → UInt8} {b : UInt8} {g cap : Nat} {W : World} (h : Snoc w n x b g cap W) : W.cell? ⟨g, n, none⟩ = some (.int .u8 (b.toNat : Int)) := by
  obtain ⟨ad, e, hc⟩ := h.src (by omega)
  have := hc n (by omega)
  injection e with e
  subst e
  rw [Addr.add_lit, Nat.zero_add] at this
  rw [this]
  show some (Value.int .u8 (((if n < n then x n else b) : UInt8).toNat : Int)) = some (Value.int .u8 (b.toNat : Int))
  rw [if_neg (by omega)]
theorem snoc_made {w W1 W2 : World} {n : Nat} {x : Nat → UInt8} {b : UInt8} {v1 v2 : Value} (h1 : W1.ownsRow w.heap.size 5 1 v1 n (bytL n x)) (g1 : (w.alloc (.cells #[] 5)).grownBy W1 (Value.slice (some ⟨w.heap.size, 0, none⟩) 0 0).ownBlock)
    (h2 : W2.ownsRow w.heap.size 5 1 v2 (n + 1) (bytL n x ++ [.int .u8 (b.toNat : Int)])) (g2 : (W1.alloc (.cells #[.int .u8 (b.toNat : Int)] 5)).grownBy W2 v1.ownBlock) : ∃ g cap, v2 = .slice (some ⟨g, 0, none⟩) (n + 1) cap ∧ Snoc w n x b g cap W2 := by
  have hw1 : Below w.heap.size w W1 := (show Only (fun k => (Value.slice (some ⟨w.heap.size, 0, none⟩) 0 0).ownBlock = some k) (w.alloc (.cells #[] 5)) W1 from Only.of_grown g1).below ((Below.refl _ _).alloc (Nat.le_refl _) _) (by simp) (fun k hk => by
    have e : w.heap.size = k := by simpa [Value.ownBlock] using hk
    omega)
  have hw2 : Below w.heap.size w W2 := (show Only (fun k => v1.ownBlock = some k) (W1.alloc (.cells #[.int .u8 (b.toNat : Int)] 5)) W2 from Only.of_grown g2).below (hw1.alloc hw1.size _) (by have := hw1.size; simp; omega) (fun k hk => (h1.lt k hk).1)
  have hl : (lisX x n ++ [b]).length = n + 1 := by rw [List.length_append, lisX_len]; rfl
  have hb : BytAt w.heap.size (lisX x n ++ [b]) v2 W2 := by
    unfold BytAt
    rw [hl, bvs_append, bvs_lisX]
    exact h2
  obtain ⟨g, cap, rfl, hc, hm, hg, _⟩ := byt_slice hb (by omega)
  rw [hl] at hb hc ⊢
  exact ⟨g, cap, rfl, hb, hc, hm, hg, hw2⟩
end Go.Proofs.YtkmjkkeldbocdaaDoor
