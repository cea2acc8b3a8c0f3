/-
  Order: all nodes, the nearer ones first.
-/
import Derived.Test.YtcbdmdalijhkoaaPoCmp
import Derived.Test.YtcbdmdalijhkoaaPoDoc
namespace Go.Proofs.Ytcbdmdalijhkoaa
open Go.RowKit Go Go.Sort Go.Lib

def cfN (g : Nat → Int) (k : Nat) (x y : Fin 8) : Int := ordI g k x.val y.val
theorem lt_cfN (g : Nat → Int) (k : Nat) (x y : Fin 8) : ltOf (cfN g k) x y = decide (g (26 + k * 8 + x.val) < g (26 + k * 8 + y.val) ∨ g (26 + k * 8 + x.val) = g (26 + k * 8 + y.val) ∧ x.val < y.val) := by
  unfold ltOf cfN ordI orI cmpI
  apply Bool.eq_iff_iff.2
  simp only [decide_eq_true_eq]
  (repeat' split) <;> omega
theorem swoN (g : Nat → Int) (k : Nat) : SWO (ltOf (cfN g k)) where
  irrefl x := by rw [lt_cfN]; simp
  trans x y z h1 h2 := by rw [lt_cfN] at *; simp only [decide_eq_true_eq] at *; omega
  ntrans x y z h1 h2 := by rw [lt_cfN] at *; simp only [decide_eq_false_iff_not] at *; omega
theorem totN (g : Nat → Int) (k : Nat) (x y : Fin 8) (h1 : ltOf (cfN g k) x y = false) (h2 : ltOf (cfN g k) y x = false) : x = y := by
  rw [lt_cfN] at *; simp only [decide_eq_false_iff_not] at *; exact Fin.ext (by omega)

theorem lt_nr (g : Nat → Int) (k : Nat) : ltOf (cfN g k) = nrB g k := by
  funext x y
  exact lt_cfN g k x y
theorem ordL_lt_eq (g : Nat → Int) (k n : Nat) : ordL g k n = (allN n).toList.mergeSort fun x y => !(ltOf (cfN g k)) y x := by
  rw [lt_nr]
  rfl
theorem sort_other {α : Type} [Inhabited α] (enc : α → Value) (w : World) (blk m : Nat) (d : Array α) (os : Array Obj) (j : Nat) (h : j < w.heap.size) (hne : j ≠ blk) : (sortWorld enc w blk 0 m d os).heap[j]? = w.heap[j]? := by
  unfold sortWorld
  rw [heap_grow_old _ _ (by simpa using h)]
  simp [putRow, mapBlock, Sort.ahead, Array.getElem?_modify, Ne.symm hne]
theorem sort_size {α : Type} [Inhabited α] (enc : α → Value) (w : World) (blk m : Nat) (d : Array α) (os : Array Obj) : w.heap.size ≤ (sortWorld enc w blk 0 m d os).heap.size := by
  unfold sortWorld; simp
theorem sort_cell {α : Type} [Inhabited α] (enc : α → Value) (w : World) (blk m : Nat) (d0 d : Array α) (os : Array Obj) (hb : blk < w.heap.size) (hs : d.size = d0.size) (H : Holds enc w blk 0 d0) (j : Nat) (hj : j < d.size) :
    (sortWorld enc w blk 0 m d os).cell? ⟨blk, j, none⟩ = some (enc d[j]!) := by
  unfold sortWorld
  rw [cell?_grow _ _ _ (by simpa using hb)]
  have := cell?_putRow enc (Sort.ahead w m) blk 0 d0 d H hs j hj
  simpa using this

/-- What Order leaves: the order in a block of its own. -/
def OrderAt (w : World) (ob n : Nat) (l : List (Fin 8)) : Prop := l.length = n ∧ ∀ j, j < n → w.cell? ⟨ob, j, none⟩ = some (encN l[j]!)
def OrderPost (g : Nat → Int) (k n : Nat) (w : World) (e : Ending) (w' : World) : Prop :=
  ∃ ob, e = .returned (.tuple #[.slice (some ⟨ob, 0, none⟩) n n, .int .i64 0]) ∧ w.heap.size ≤ ob ∧ OrderAt w' ob n (ordL g k n) ∧ Below w.heap.size w w'

theorem info3 : (Try.prog.info? 3).map (fun i => (i.zero, i.size, i.bytes)) = some (some (.int .i64 0), 1, 8) := by kernel_rfl

theorem made_int (n j : Nat) (h : j < n) : (madeCells #[Value.int .i64 0] n).toList[j]? = some (.int .i64 ((0 : Nat) : Int)) := by
  simp [madeCells, h, Nat.mod_one]

/-- The row while it is filled: the first k places are filled. -/
structure Filled (B : Nat) (w0 w : World) (ob n k : Nat) : Prop where
  cell : ∀ j, j < n → w.cell? ⟨ob, j, none⟩ = some (.int .i64 (if j < k then j else 0 : Nat))
  free : ∀ j, j < n → w.frozen? ⟨ob, j, none⟩ = false
  below : Below B w0 w
  keep : ∀ j, j < ob → w.heap[j]? = w0.heap[j]?
  lt : ob < w.heap.size
  base : B ≤ ob
theorem Filled.store {B : Nat} {w0 w : World} {ob n k : Nat} (F : Filled B w0 w ob n k) (hk : k < n) : Filled B w0 (w.setCell ⟨ob, k, none⟩ (.int .i64 k)) ob n (k + 1) := by
  refine ⟨fun j hj => ?_, fun j hj => by rw [World.frozen?_setCell]; exact F.free j hj, F.below.setCell (p := ⟨ob, k, none⟩) F.base _, fun j hj => by rw [heap_setCell_other _ _ _ _ (by show j ≠ ob; omega)]; exact F.keep j hj, by simpa [World.setCell] using F.lt, F.base⟩
  by_cases e : j = k
  · subst e
    rw [World.cell?_setCell_same _ _ _ (F.cell j hj), if_pos (by omega)]
  · rw [World.cell?_setCell_other _ _ _ _ (fun h => e (congrArg Addr.off h).symm), F.cell j hj]
    by_cases h : j < k
    · rw [if_pos h, if_pos (by omega)]
    · rw [if_neg h, if_neg (by omega)]
theorem Filled.holds {B : Nat} {w0 w : World} {ob n : Nat} (F : Filled B w0 w ob n n) (hn : n ≤ 8) : Holds encN w ob 0 (allN n) := fun j hj => by
  rw [allN_size] at hj
  refine ⟨?_, by rw [Nat.zero_add]; exact F.free j hj⟩
  rw [Nat.zero_add, F.cell j hj, if_pos hj]
  unfold encN
  rw [allN_get n j hn hj]

theorem order_no (A : Array Value) (g : Nat → Int) (node : Int) (w : World) (hA : Cfg A g) (h0 : askI g node ≠ 0) :
    Calls Try.prog 19 #[.agg A, .int .i64 node] w fun e w' => e = .returned (.tuple #[.slice none 0 0, .int .i64 (askI g node)]) ∧ Below w.heap.size w w' := by
  have C0 := (CfgAt.new w hA).later ((Below.refl _ _).alloc (Nat.le_refl _) (.cells #[.int .i64 node] 3))
  have HA := Lib.hid hA
  have hne : (askI g node != 0) = true := by simpa using h0
  generalize hz : askI g node = z at hne h0
  have HZ := Lib.hid hz
  clear hz h0 hA
  go_enter Try.func19, Try.ntmps19
  go_wp2_with (refine wpList_load_cfg rfl _ rfl _ rfl C0 ?_)
  refine (asked_any A g node _ HA.out).mono ?_
  rintro e w1 ⟨rfl, hb⟩
  rw [HZ.out]
  have HB := Lib.hid hb
  clear hb
  go_wp2_with (fail)
  go_ret2
  exact ⟨rfl, (((Below.refl _ _).alloc (Nat.le_refl _) _).alloc (by simp) _).trans (HB.out.mono (by simp; omega))⟩

/-- What the walk of Order knows of the world in which it sorts. -/
structure Sorting (A : Array Value) (g : Nat → Int) (w W : World) (ob n k : Nat) : Prop where
  cfg : CfgAt W w.heap.size A g
  node : W.cell? ⟨w.heap.size + 1, 0, none⟩ = some (.int .i64 k)
  holds : Holds encN W ob 0 (allN n)
  lt : ob < W.heap.size
  base : w.heap.size + 2 ≤ ob
  below : RowKit.Below w.heap.size w W

theorem cmp_sorting {A : Array Value} {g : Nat → Int} {w W : World} {ob n k : Nat} (S : Sorting A g w W ob n k) (hk : k < 8) :
    CmpLays1 Try.prog 35 #[.pointer (some ⟨w.heap.size, 0, none⟩), .pointer (some ⟨w.heap.size + 1, 0, none⟩)] encN (cfN g k) ob 0 n W := by
  intro m os dk hs x y
  have h1 := S.base
  have h2 := S.lt
  have C : CfgAt (sortWorld encN W ob 0 m dk os) w.heap.size A g := ⟨S.cfg.cfg, by rw [sort_other _ _ _ _ _ _ _ (by omega) (by omega)]; exact S.cfg.block⟩
  have hn : (sortWorld encN W ob 0 m dk os).cell? ⟨w.heap.size + 1, 0, none⟩ = some (.int .i64 k) := by
    rw [World.cell?_of_block (sort_other _ _ _ _ _ _ _ (by show w.heap.size + 1 < _; omega) (by show w.heap.size + 1 ≠ _; omega))]; exact S.node
  exact closure_any A g w.heap.size (w.heap.size + 1) k x.val y.val _ C hn hk x.isLt y.isLt

theorem sort_any {A : Array Value} {g : Nat → Int} {w W : World} {ob n k : Nat} (S : Sorting A g w W ob n k) (hk : k < 8) (hn : n ≤ 8) :
    Calls Try.prog 34 #[.slice (some ⟨ob, 0, none⟩) n n, .func (.func 35) #[] #[.pointer (some ⟨w.heap.size, 0, none⟩), .pointer (some ⟨w.heap.size + 1, 0, none⟩)]] W
      fun e w' => e = .returned (.tuple #[]) ∧ OrderAt w' ob n (ordL g k n) ∧ RowKit.Below w.heap.size w w' := by
  have eg : ∀ args w, (callFunc 35 args).run Try.prog w = .ok (.enter 35 args) w := enters_of Try.func35 (by kernel_rfl) rfl
  have h := Any.slices_SortFunc_total Try.sortL encN (fun _ => rfl) (cfN g k) (swoN g k) 35 #[.pointer (some ⟨w.heap.size, 0, none⟩), .pointer (some ⟨w.heap.size + 1, 0, none⟩)] ob 0 n (allN n) W eg
    (by rw [allN_size]; exact cmp_sorting S hk) S.holds S.lt (by rw [allN_size]; omega) (totN g k)
  rw [allN_size, ← ordL_lt_eq] at h
  refine h.mono ?_
  rintro e w' ⟨rfl, m, os, rfl⟩
  have hs : (ordL g k n).toArray.size = (allN n).size := by rw [allN_size]; simpa using ordL_length g k n
  refine ⟨rfl, ⟨ordL_length g k n, fun j hj => ?_⟩, ?_⟩
  · have := sort_cell encN W ob m (allN n) (ordL g k n).toArray os S.lt hs S.holds j (by rw [hs, allN_size]; exact hj)
    rw [show (ordL g k n)[j]! = (ordL g k n).toArray[j]! by simp]
    exact this
  · have h1 := S.base
    have hz : (sortWorld encN W ob 0 m (ordL g k n).toArray os).heap.size ≥ W.heap.size := sort_size _ _ _ _ _ _
    exact S.below.trans ⟨rfl, rfl, rfl, hz, fun j hj => sort_other _ _ _ _ _ _ _ (by have := S.lt; omega) (by omega)⟩

set_option maxHeartbeats 1000000 in
theorem order_yes (A : Array Value) (g : Nat → Int) (k n : Nat) (w : World) (hA : Cfg A g) (G : Good g) (hn : g 0 = n) (hk : k < n) :
    Calls Try.prog 19 #[.agg A, .int .i64 k] w (OrderPost g k n w) := by
  have C0 := (CfgAt.new w hA).later ((Below.refl _ _).alloc (Nat.le_refl _) (.cells #[.int .i64 k] 3))
  have N0 : ((w.alloc (.cells A 26)).alloc (.cells #[.int .i64 k] 3)).cell? ⟨w.heap.size + 1, 0, none⟩ = some (.int .i64 k) := by
    rw [cell_of_row _ _ _ _ _ _ (heap_alloc2_new w _ _)]; rfl
  have hn8 : n ≤ 8 := by have := G.n2; omega
  have HZ := Lib.hid (ask_zero.2 ⟨G, show (0 : Int) ≤ k by omega, by omega⟩)
  have HA := Lib.hid hA
  have HN := Lib.hid hn
  clear hA G hn
  obtain ⟨i0, hi, hz0, hz1, hz2⟩ := info_parts info3
  go_enter Try.func19, Try.ntmps19
  go_wp2_with (refine wpList_load_cfg rfl _ rfl _ rfl C0 ?_)
  refine (asked_any A g k _ HA.out).mono ?_
  rintro e w1 ⟨rfl, hb⟩
  rw [HZ.out]
  have C1 := C0.later hb
  have N1 : w1.cell? ⟨w.heap.size + 1, 0, none⟩ = some (.int .i64 k) := by rw [hb.cell (p := ⟨w.heap.size + 1, 0, none⟩) (by simp)]; exact N0
  have HB := Lib.hid ((((Below.refl _ _).alloc (Nat.le_refl _) _).alloc (by simp) _).trans (hb.mono (by simp; omega)) : RowKit.Below w.heap.size w w1)
  have hsz : w.heap.size + 2 ≤ w1.heap.size := by have := hb.size; simp at this; omega
  have c1 := C1.cell 0 (by decide)
  rw [HN.out] at c1
  clear hb N0 C0
  go_wp2_with (at_make; refine wpList_make_full _ rfl _ _ 31 rfl w1.heap.size 3 i0 (.int .i64 0) 1 Try.underlying31 hi hz0 hz1 .i64 .i64 _ _ n rfl rfl ?c1 ?c2 ?c3 ?c4 ?c5 ?_)
  case c1 => omega
  case c2 => omega
  case c3 => rw [hz2]; omega
  case c4 => unfold maxLen; omega
  case c5 => exact Nat.le_refl _
  intro w2 hown hg
  have F0 : Filled w.heap.size w1 w2 w1.heap.size n 0 := ⟨fun j hj => by
      rw [hown.cellAt j (by omega), if_neg (by omega)]; exact made_int n j hj, fun j _ => hown.frozenAt j,
    ((Below.refl _ _).grown hg (by omega) (fun k h => by cases h)), fun j hj => hg.block j hj (fun e => by cases e), (hown.lt w1.heap.size rfl).2, by omega⟩
  have HF := Lib.hid F0
  clear F0 hown hg hi hz0 hz1 hz2 c1
  go_wp2_with (fail)
  go_loopw [8, 20] (fun _ x wr => ∃ j : Nat, j ≤ n ∧ x = .int .i64 j ∧ Hid (Filled w.heap.size w1 wr w1.heap.size n j)) (fun _ x _ => n - (intOf x).toNat)
  case atStart => exact ⟨0, Nat.zero_le _, rfl, HF⟩
  case round =>
    obtain ⟨j, hj, rfl, HJ⟩ := hrel
    by_cases hlt : j < n
    · have cj := HJ.out.cell j hlt
      have fj := HJ.out.free j hlt
      have HN2 := Lib.hid (HJ.out.store hlt)
      go_wp2_with (fail)
      go_roundw
      case rel => exact ⟨j + 1, hlt, by go_num, HN2⟩
      case measure => simp [intOf]; omega
    · obtain rfl : j = n := by omega
      have F := HJ.out
      have S : Sorting A g w _ w1.heap.size j k := ⟨⟨C1.cfg, by rw [F.keep _ (by omega)]; exact C1.block⟩,
        by rw [World.cell?_of_block (F.keep _ (by show w.heap.size + 1 < _; omega))]; exact N1, F.holds hn8, F.lt, hsz, HB.out.trans F.below⟩
      have HS := Lib.hid S
      clear S F
      go_wp2_with (fail)
      refine (sort_any HS.out (by omega) hn8).mono ?_
      rintro e w3 ⟨rfl, hO, hB3⟩
      have HO := Lib.hid hO
      have HB3 := Lib.hid hB3
      clear hO hB3
      go_wp2_with (fail)
      go_ret2
      exact ⟨w1.heap.size, rfl, by omega, HO.out, HB3.out⟩
/-- What comes of it, as a list of numbers that lie. -/
def CoPost (L : List Nat) (E : Int) (w : World) (e : Ending) (w' : World) : Prop := ∃ v, e = .returned (.tuple #[v, .int .i64 E]) ∧ LstAt w' v L ∧ Below w.heap.size w w' ∧ (0 < L.length → ∃ b c, v = .slice (some ⟨b, 0, none⟩) L.length c ∧ w.heap.size ≤ b)
theorem OrderAt.lst {w : World} {ob n k : Nat} {g : Nat → Int} (h : OrderAt w ob n (ordL g k n)) : LstAt w (.slice (some ⟨ob, 0, none⟩) n n) (nearN g k n) := by
  refine ⟨some ⟨ob, 0, none⟩, n, by rw [nearN_len], fun i x hi => ⟨ob, 0, rfl, ?_⟩⟩
  unfold nearN at hi
  rw [List.getElem?_map] at hi
  cases ho : (ordL g k n)[i]? with
  | none => rw [ho] at hi; cases hi
  | some y =>
    rw [ho] at hi
    simp only [Option.map_some, Option.some.injEq] at hi
    obtain ⟨hl, hy⟩ := List.getElem?_eq_some_iff.1 ho
    have h2 := h.2 i (by have := h.1; omega)
    rw [getElem!_pos (ordL g k n) i hl, hy] at h2
    rw [Nat.zero_add, h2]
    unfold encN
    rw [hi]
theorem corder_any (A : Array Value) (g : Nat → Int) (node : Int) (w : World) (hA : Cfg A g) : Calls Try.prog 19 #[.agg A, .int .i64 node] w fun e w' =>
    CoPost (if askI g node = 0 then nearN g node.toNat (g 0).toNat else []) (askI g node) w e w' := by
  by_cases h : askI g node = 0
  · obtain ⟨G, h1, h2⟩ := ask_zero.1 h
    have g2 := G.n2
    obtain ⟨k, rfl⟩ : ∃ k : Nat, node = k := ⟨node.toNat, by omega⟩
    obtain ⟨n, hn⟩ : ∃ n : Nat, g 0 = n := ⟨(g 0).toNat, by omega⟩
    rw [if_pos h, h]
    refine (order_yes A g k n w hA G hn (by omega)).mono ?_
    rintro e w' ⟨ob, rfl, hb, hO, hB⟩
    rw [hn, Int.toNat_natCast, Int.toNat_natCast]
    exact ⟨_, rfl, hO.lst, hB, fun _ => ⟨ob, n, by rw [nearN_len], hb⟩⟩
  · rw [if_neg h]
    refine (order_no A g node w hA h).mono ?_
    rintro e w' ⟨rfl, hB⟩
    exact ⟨_, rfl, LstAt.nil w' none 0, hB, fun h => absurd h (by simp)⟩
end Go.Proofs.Ytcbdmdalijhkoaa
