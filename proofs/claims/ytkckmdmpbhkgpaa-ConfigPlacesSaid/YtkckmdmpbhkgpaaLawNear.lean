/-
  The walk of ConfigNear: it returns true, and below the old heap nothing has turned.
-/
import Derived.Test.YtkckmdmpbhkgpaaKnown
namespace Go.Proofs.Ytkckmdmpbhkgpaa
open Go.RowKit Go

theorem near_no (A : Array Value) (g : Nat → Int) (node : Int) (w : World) (hA : Cfg A g) (h0 : askI g node ≠ 0) :
    Calls Try.prog 6 #[.agg A, .int .i64 node] w fun e w' => e = .returned (.bool true) ∧ Below w.heap.size w w' := by
  have C0 := CfgAt.new w hA
  have hB : Below w.heap.size w (w.alloc (.cells A 26)) := (Below.refl _ _).alloc (Nat.le_refl _) _
  have hne : (askI g node != 0) = true := by simpa using h0
  have HO := Lib.hid (fun W => order_no A g node W hA h0)
  generalize askI g node = z at hne h0 HO
  clear hA h0
  go_enter Try.func6, Try.ntmps6
  go_wp2_with (refine wpList_load_cfg rfl _ rfl _ rfl C0 ?_)
  refine (HO.out _).mono ?_
  rintro e w1 ⟨rfl, hb⟩
  have hB1 := hB.trans (hb.mono hB.size)
  clear hb hB C0
  go_wp2_with (fail)
  refine (known_any w1).mono ?_
  rintro e w2 ⟨rfl, hb⟩
  have hB2 := hB1.trans (hb.mono hB1.size)
  clear hb hB1
  go_wp2_with (fail)
  go_ret
  exact ⟨rfl, hB2⟩

/-- Which nodes are among the first i of the order. -/
def seenB (l : List (Fin 8)) (i j : Nat) : Bool := (List.range i).any fun p => l[p]!.val == j
theorem seenB_succ (l : List (Fin 8)) (i j : Nat) : seenB l (i + 1) j = (seenB l i j || l[i]!.val == j) := by
  simp [seenB, List.range_succ]

/-- What the walk of ConfigNear knows of its world. -/
structure NearAt (A : Array Value) (g : Nat → Int) (w W : World) (ob sb n k i : Nat) : Prop where
  cfg : CfgAt W w.heap.size A g
  ord : ∀ j, j < n → W.cell? ⟨ob, j, none⟩ = some (encN (ordL g k n)[j]!)
  seen : ∀ j, j < 8 → W.cell? ⟨sb, j, none⟩ = some (.bool (seenB (ordL g k n) i j))
  free : ∀ j, j < 8 → W.frozen? ⟨sb, j, none⟩ = false
  ne1 : sb ≠ w.heap.size
  ne2 : sb ≠ ob
  base : w.heap.size ≤ sb
  below : Below w.heap.size w W
theorem NearAt.drewN {A : Array Value} {g : Nat → Int} {w W : World} {ob sb n k i : Nat} (N : NearAt A g w W ob sb n k i) (m : Nat) : NearAt A g w (W.drewN m) ob sb n k i :=
  ⟨N.cfg.drewN m, N.ord, N.seen, N.free, N.ne1, N.ne2, N.base, below_drewN N.below m⟩
theorem NearAt.store {A : Array Value} {g : Nat → Int} {w W : World} {ob sb n k i : Nat} (N : NearAt A g w W ob sb n k i) (v : Nat) (hv : v < 8) (e : ((ordL g k n)[i]!).val = v) :
    NearAt A g w (W.setCell ⟨sb, v, none⟩ (.bool true)) ob sb n k (i + 1) := by
  refine ⟨⟨N.cfg.cfg, by rw [heap_setCell_other _ _ _ _ (Ne.symm N.ne1)]; exact N.cfg.block⟩, fun j hj => ?_, fun j hj => ?_, fun j hj => by rw [World.frozen?_setCell]; exact N.free j hj, N.ne1, N.ne2, N.base, N.below.setCell (p := ⟨sb, v, none⟩) N.base _⟩
  · rw [World.cell?_setCell_other _ _ _ _ (fun h => N.ne2 (congrArg Addr.block h))]; exact N.ord j hj
  · rw [seenB_succ, e]
    by_cases h : j = v
    · subst h
      rw [World.cell?_setCell_same _ _ _ (N.seen j hj)]; simp
    · rw [World.cell?_setCell_other _ _ _ _ (fun h2 => h (congrArg Addr.off h2).symm), N.seen j hj]
      simp [Ne.symm h]
theorem not_seen {g : Nat → Int} {n k i : Nat} (hn : n ≤ 8) (hi : i < n) : seenB (ordL g k n) i ((ordL g k n)[i]!).val = false := by
  unfold seenB
  rw [List.any_eq_false]
  intro p hp
  simp at hp
  have := ordL_ne (g := g) (k := k) (n := n) (i := p) (j := i) hn hp hi
  simpa using this

theorem near_start {A : Array Value} {g : Nat → Int} {w w1 : World} {ob n k : Nat} (T : TypeId) (C : CfgAt w1 w.heap.size A g) (O : OrderAt w1 ob n (ordL g k n)) (hB : Below w.heap.size w w1) (hlt : ob < w1.heap.size) :
    NearAt A g w (w1.alloc (.cells #[.bool false, .bool false, .bool false, .bool false, .bool false, .bool false, .bool false, .bool false] T)) ob w1.heap.size n k 0 := by
  have hb : Below w1.heap.size w1 (w1.alloc (.cells #[.bool false, .bool false, .bool false, .bool false, .bool false, .bool false, .bool false, .bool false] T)) := (Below.refl _ _).alloc (Nat.le_refl _) _
  have hr := heap_alloc_new w1 (.cells #[.bool false, .bool false, .bool false, .bool false, .bool false, .bool false, .bool false, .bool false] T)
  refine ⟨C.later hb, fun j hj => by rw [hb.cell (p := ⟨ob, j, none⟩) hlt]; exact O.2 j hj, fun j hj => ?_, fun j _ => frozen_of_row _ _ j _ T hr, ?_, by omega, hB.size, hB.trans (hb.mono hB.size)⟩
  · rw [cell_of_row _ _ _ _ _ _ hr]
    rcases (show j = 0 ∨ j = 1 ∨ j = 2 ∨ j = 3 ∨ j = 4 ∨ j = 5 ∨ j = 6 ∨ j = 7 by omega) with rfl | rfl | rfl | rfl | rfl | rfl | rfl | rfl <;> rfl
  · have := C.lt; omega

set_option maxHeartbeats 2000000 in
set_option maxRecDepth 100000 in
theorem near_yes (A : Array Value) (g : Nat → Int) (k n : Nat) (w : World) (hA : Cfg A g) (G : Good g) (hn : g 0 = n) (hk : k < n) :
    Calls Try.prog 6 #[.agg A, .int .i64 k] w fun e w' => e = .returned (.bool true) ∧ Below w.heap.size w w' := by
  have C0 := CfgAt.new w hA
  have hB : Below w.heap.size w (w.alloc (.cells A 26)) := (Below.refl _ _).alloc (Nat.le_refl _) _
  have hn8 : n ≤ 8 := by have := G.n2; omega
  have hn1 : 1 ≤ n := by have := G.n1; omega
  have HF := Lib.hid (ord_first G hn hk)
  have HO := Lib.hid (fun W => order_yes A g k n W hA G hn hk)
  have HN := Lib.hid hn
  clear hA G hn
  go_enter Try.func6, Try.ntmps6
  go_wp2_with (refine wpList_load_cfg rfl _ rfl _ rfl C0 ?_)
  refine (HO.out _).mono ?_
  rintro e w1 ⟨ob, rfl, hob, ho, hb⟩
  have hB1 := hB.trans (hb.mono hB.size)
  have C1 := C0.later hb
  have c0 := C1.cell 0 (by decide)
  rw [HN.out] at c0
  have f0 : w1.cell? ⟨ob, 0, none⟩ = some (.int .i64 k) := by rw [ho.2 0 (by omega)]; unfold encN; rw [HF.out]
  have hlt := World.block_lt_of_cell? _ _ f0
  have HO2 := Lib.hid ho
  clear hb hB C0 ho
  have HS := Lib.hid (near_start 41 C1 HO2.out hB1 hlt)
  go_wp2_with (fail)
  have hb0 : w.heap.size ≤ w1.heap.size := hB1.size
  clear c0 f0 C1 hB1
  go_loopw [39] (fun x wr => ∃ i : Nat, i ≤ n ∧ x = .int .i64 i ∧ Hid (NearAt A g w wr ob w1.heap.size n k i)) (fun x _ => n - (intOf x).toNat)
  case atStart => exact ⟨0, Nat.zero_le _, rfl, HS⟩
  case round =>
    obtain ⟨i, hi, rfl, HI⟩ := hrel
    by_cases hlt2 : i < n
    · obtain ⟨v, hv⟩ : ∃ v, v = ((ordL g k n)[i]!).val := ⟨_, rfl⟩
      have hvn : v < n := by rw [hv]; exact ordL_lt hn8 hlt2
      have c0 := HI.out.cfg.cell 0 (by decide)
      rw [HN.out] at c0
      have ci : _ = some (Value.int .i64 (v : Int)) := (HI.out.ord i hlt2).trans (by unfold encN; rw [hv])
      have cs : _ = some (Value.bool false) := (HI.out.seen v (by omega)).trans (by rw [hv, not_seen hn8 hlt2])
      have fs := HI.out.free v (by omega)
      have iv : (v : Int) < 8 := by omega
      have d1 : decide ((v : Int) < 0) = false := by simp
      have d2 : decide ((n : Int) ≤ (v : Int)) = false := by simp; omega
      have HV := Lib.hid hv
      clear hv
      go_wp2_with (fail)
      go_quiet (fail)
      clear d1 d2 c0
      have NX := (HI.out.drewN nq).store v (by omega) HV.out.symm
      have HNX := Lib.hid NX
      by_cases h0 : i = 0
      · subst h0
        clear NX
        go_wp2_with (fail)
        go_roundw
        case rel => exact ⟨1, hn1, rfl, HNX⟩
        case measure => simp [intOf]; omega
      · obtain ⟨p, rfl⟩ : ∃ p, i = p + 1 := ⟨i - 1, by omega⟩
        obtain ⟨u, hu⟩ : ∃ u, u = ((ordL g k n)[p]!).val := ⟨_, rfl⟩
        have hun : u < n := by rw [hu]; exact ordL_lt hn8 (by omega)
        have iu : (u : Int) < 8 := by omega
        have cp : _ = some (Value.int .i64 (u : Int)) := (NX.ord p (by omega)).trans (by unfold encN; rw [hu])
        have cq : _ = some (Value.int .i64 (v : Int)) := (NX.ord (p + 1) hlt2).trans (by unfold encN; rw [HV.out])
        have du := NX.cfg.cell (26 + k * 8 + u) (by omega)
        have dv := NX.cfg.cell (26 + k * 8 + v) (by omega)
        have hle := ordL_le (g := g) (k := k) (n := n) (i := p) (j := p + 1) (by omega) hlt2
        have hne := ordL_ne (g := g) (k := k) (n := n) (i := p) (j := p + 1) hn8 (by omega) hlt2
        rw [← hu, ← HV.out] at hle hne
        have ik : (k : Int) < 8 := by omega
        have ip : (p : Int) < n := by omega
        generalize g (26 + k * 8 + u) = x at du hle
        generalize g (26 + k * 8 + v) = y at dv hle
        clear NX hu
        by_cases hxy : x = y
        · subst hxy
          have huv : u < v := by omega
          have d3 : decide (x < x) = false := by simp
          have d4 : decide ((v : Int) < (u : Int)) = false := by simp; omega
          clear hle hne
          go_wp2_with (fail)
          go_quiet (fail)
          go_wp2_with (fail)
          go_quiet (fail)
          go_wp2_with (fail)
          go_roundw
          case rel => exact ⟨p + 1 + 1, by omega, by go_num, Lib.hid (HNX.out.drewN _)⟩
          case measure => simp [intOf]; omega
        · have hlt3 : x < y := by omega
          have d3 : decide (y < x) = false := by simp; omega
          have d4 : (x == y) = false := by simpa using hxy
          clear hle hne hxy
          go_wp2_with (fail)
          go_quiet (fail)
          go_wp2_with (fail)
          go_quiet (fail)
          go_wp2_with (fail)
          go_roundw
          case rel => exact ⟨p + 1 + 1, by omega, by go_num, Lib.hid (HNX.out.drewN _)⟩
          case measure => simp [intOf]; omega
    · go_wp2_with (fail)
      refine (known_any _).mono ?_
      rintro e w3 ⟨rfl, hb⟩
      have hB3 := HI.out.below.trans (hb.mono HI.out.below.size)
      clear hb
      go_wp2_with (fail)
      go_ret
      exact ⟨rfl, hB3⟩

theorem lawNear_any (A : Array Value) (g : Nat → Int) (node : Int) (w : World) (hA : Cfg A g) :
    Calls Try.prog 6 #[.agg A, .int .i64 node] w fun e w' => e = .returned (.bool true) ∧ Below w.heap.size w w' := by
  by_cases h : askI g node = 0
  · obtain ⟨G, h1, h2⟩ := ask_zero.1 h
    obtain ⟨k, rfl⟩ := Int.eq_ofNat_of_zero_le h1
    obtain ⟨n, hn⟩ := Int.eq_ofNat_of_zero_le (show 0 ≤ g 0 by omega)
    exact near_yes A g k n w hA G hn (by omega)
  · exact near_no A g node w hA h
end Go.Proofs.Ytkckmdmpbhkgpaa
