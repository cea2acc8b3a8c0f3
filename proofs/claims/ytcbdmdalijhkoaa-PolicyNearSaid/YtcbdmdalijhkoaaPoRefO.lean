/-
  The document's own answer: the nearest one that is not there yet, again and again.
-/
import Derived.Test.YtcbdmdalijhkoaaRefWalk
import Derived.Test.YtcbdmdalijhkoaaPoOrd
import Derived.Test.YtcbdmdalijhkoaaOwn
import Derived.Laws.AppendOwn
import Derived.OwnWalk
namespace Go.Proofs.Ytcbdmdalijhkoaa
open Go.RowKit Go

theorem kept_append {A : Array Value} {g : Nat → Int} {w wr w1 : World} {base n : Nat} {v : Value} {xs : List Value} {ob : Obj} {T : TypeId} (hown : wr.ownsRow base T 1 v n xs) (C : CfgAt wr w.heap.size A g) (hB : Below w.heap.size w wr) (hb : w.heap.size < base)
    (hg : (wr.alloc ob).grownBy w1 v.ownBlock) : CfgAt w1 w.heap.size A g ∧ Below w.heap.size w w1 := by
  have hr := (hown.alloc ob).lt
  refine ⟨⟨C.cfg, ?_⟩, (hB.alloc hB.size ob).grown hg (by simp; have := hB.size; omega) (fun k h => by have := hr k h; omega)⟩
  rw [hg.block w.heap.size (by simp; have := C.lt; omega) (fun e => by have := hr _ e.symm; omega), ((Below.refl wr.heap.size wr).alloc (Nat.le_refl _) ob).block _ C.lt]
  exact C.block

theorem infoIntF : (Try.prog.info? 3).map (fun i => (i.zero, i.size, i.bytes)) = some (some (.int .i64 0), 1, 8) := by kernel_rfl
theorem one_new (wr : World) (x : Value) (T : TypeId) : ∀ j u, [x][j]? = some u → (wr.alloc (.cells #[x] T)).cell? ((⟨wr.heap.size, 0, none⟩ : Addr).add j) = some u := by
  intro j u hj
  match j, hj with
  | 0, hj =>
    simp at hj; subst hj
    show (wr.alloc (.cells #[x] T)).cell? ⟨wr.heap.size, 0, none⟩ = _
    rw [cell_of_row _ _ _ _ _ _ (heap_alloc_new wr _)]; rfl

theorem info3 : (Try.prog.info? 3).map (fun i => (i.zero, i.size, i.bytes)) = some (some (.int .i64 0), 1, 8) := infoIntF
/-- The nearer one, of alike ones the smaller number. -/
def Nearer (g : Nat → Int) (k a b : Nat) : Prop := g (26 + k * 8 + a) < g (26 + k * 8 + b) ∨ g (26 + k * 8 + a) = g (26 + k * 8 + b) ∧ a < b
/-- The best one so far, of the first i. -/
def BestAt (g : Nat → Int) (k n j i : Nat) (x : Int) : Prop :=
  (x = -1 ∧ ∀ l, l < i → seenB (ordL g k n) j l = true) ∨
  ∃ b : Nat, x = b ∧ b < i ∧ seenB (ordL g k n) j b = false ∧ ∀ l, l < i → seenB (ordL g k n) j l = false → l = b ∨ Nearer g k b l

theorem seen_iff {g : Nat → Int} {k n j : Nat} {l : Nat} (hl : l < n) (hn : n ≤ 8) : seenB (ordL g k n) j l = false ↔ ∃ p, j ≤ p ∧ p < n ∧ ((ordL g k n)[p]!).val = l := by
  have hlen := ordL_length g k n
  constructor
  · intro h
    have hm : (⟨l, by omega⟩ : Fin 8) ∈ ordL g k n := (mem_ordL hn).2 hl
    obtain ⟨p, hp, e⟩ := List.getElem_of_mem hm
    have e2 : ((ordL g k n)[p]!).val = l := by rw [getElem!_pos (ordL g k n) p hp, e]
    refine ⟨p, ?_, by omega, e2⟩
    by_cases hpj : j ≤ p
    · exact hpj
    · unfold seenB at h
      rw [List.any_eq_false] at h
      have := h p (by simp; omega)
      rw [e2] at this
      simp at this
  · rintro ⟨p, h1, h2, rfl⟩
    unfold seenB
    rw [List.any_eq_false]
    intro q hq
    simp at hq
    have := ordL_ne (g := g) (k := k) (n := n) (i := q) (j := p) hn (by omega) h2
    simpa using this

theorem best_done {g : Nat → Int} {k n j : Nat} {x : Int} (hn : n ≤ 8) (hj : j < n) (h : BestAt g k n j n x) : x = ((ordL g k n)[j]!).val := by
  have hlt := ordL_lt (g := g) (k := k) (n := n) (j := j) hn hj
  have hs := (seen_iff (g := g) (k := k) hlt hn).2 ⟨j, Nat.le_refl _, hj, rfl⟩
  rcases h with ⟨_, h⟩ | ⟨b, rfl, hb, hbs, h⟩
  · rw [h _ hlt] at hs; cases hs
  · obtain ⟨p, p1, p2, p3⟩ := (seen_iff hb hn).1 hbs
    by_cases e : p = j
    · subst e; rw [p3]
    · have h1 := ordL_le (g := g) (k := k) (n := n) (i := j) (j := p) (by omega) p2
      have h2 := ordL_ne (g := g) (k := k) (n := n) (i := j) (j := p) hn (by omega) p2
      rw [p3] at h1 h2
      rcases h _ hlt hs with h3 | h3
      · omega
      · unfold Nearer at h3; omega

/-- What the walk of the plain Order knows of its world. -/
structure RefOAt (A : Array Value) (g : Nat → Int) (w W : World) (n k j : Nat) (v : Value) : Prop where
  cfg : CfgAt W w.heap.size A g
  seen : ∀ l, l < 8 → W.cell? ⟨w.heap.size + 1, l, none⟩ = some (.bool (seenB (ordL g k n) j l))
  free : ∀ l, l < 8 → W.frozen? ⟨w.heap.size + 1, l, none⟩ = false
  own : W.ownsRow (w.heap.size + 2) 3 1 v j (((ordL g k n).take j).map encN)
  below : Below w.heap.size w W
  size : w.heap.size + 2 ≤ W.heap.size

theorem RefOAt.drewN {A : Array Value} {g : Nat → Int} {w W : World} {n k j : Nat} {v : Value} (R : RefOAt A g w W n k j v) (m : Nat) : RefOAt A g w (W.drewN m) n k j v :=
  ⟨R.cfg.drewN m, R.seen, R.free, R.own, below_drewN R.below m, R.size⟩
theorem RefOAt.shape {A : Array Value} {g : Nat → Int} {w W : World} {n k j : Nat} {v : Value} (R : RefOAt A g w W n k j v) : ∃ p c, v = .slice p j c := by
  rcases R.own.2 with ⟨rfl, h⟩ | ⟨q, cap, cur, rfl, _⟩
  · exact ⟨none, 0, by rw [h]⟩
  · exact ⟨_, _, rfl⟩

/-- How long a slice is. -/
def lenV : Value → Nat
  | .slice _ l _ => l
  | _ => 0

theorem refo_start {A : Array Value} {g : Nat → Int} (w : World) (n k : Nat) (T : TypeId) (C : Cfg A g) :
    RefOAt A g w ((w.alloc (.cells A 26)).alloc (.cells #[.bool false, .bool false, .bool false, .bool false, .bool false, .bool false, .bool false, .bool false] T)) n k 0 (.slice none 0 0) := by
  have hr := heap_alloc2_new w (.cells A 26) (.cells #[.bool false, .bool false, .bool false, .bool false, .bool false, .bool false, .bool false, .bool false] T)
  refine ⟨⟨C, heap_alloc2_old w _ _⟩, fun l hl => ?_, fun l _ => frozen_of_row _ _ l _ T hr, World.ownsRow_nil _ _ _ _, ((Below.refl _ _).alloc (Nat.le_refl _) _).alloc (by simp) _, by simp⟩
  rw [cell_of_row _ _ _ _ _ _ hr]
  rcases (show l = 0 ∨ l = 1 ∨ l = 2 ∨ l = 3 ∨ l = 4 ∨ l = 5 ∨ l = 6 ∨ l = 7 by omega) with rfl | rfl | rfl | rfl | rfl | rfl | rfl | rfl <;> rfl

theorem own_store {A : Array Value} {g : Nat → Int} {w W : World} {n k j : Nat} {v : Value} (R : RefOAt A g w W n k j v) (b : Nat) (u : Value) : (W.setCell ⟨w.heap.size + 1, b, none⟩ u).ownsRow (w.heap.size + 2) 3 1 v j (((ordL g k n).take j).map encN) := by
  refine R.own.kept (row := some (w.heap.size + 1)) ⟨rfl, rfl, rfl, by simp [World.setCell], fun q _ h => Below.heap_setCell W _ u q (fun e => h (by rw [e]))⟩ ?_
  cases e : v.ownBlock with
  | none => exact .inl rfl
  | some q => exact .inr (fun h => by have := R.own.lt q e; have := Option.some.inj h; omega)

theorem refo_step {A : Array Value} {g : Nat → Int} {w W w3 : World} {n k j b : Nat} {v v' : Value} {T : TypeId} (R : RefOAt A g w W n k j v) (hj : j < n) (hb8 : b < 8) (hb : ((ordL g k n)[j]!).val = b)
    (hown : w3.ownsRow (w.heap.size + 2) 3 1 v' (j + 1) (((ordL g k n).take j).map encN ++ [.int .i64 b])) (hg : ((W.setCell ⟨w.heap.size + 1, b, none⟩ (.bool true)).alloc (.cells #[.int .i64 b] T)).grownBy w3 v.ownBlock) :
    RefOAt A g w w3 n k (j + 1) v' := by
  have hlen := ordL_length g k n
  have hsz := R.size
  have hlt := ((own_store R b (.bool true)).alloc (.cells #[.int .i64 b] T)).lt
  have hW : (W.setCell ⟨w.heap.size + 1, b, none⟩ (.bool true)).heap.size = W.heap.size := by simp [World.setCell]
  have hbl : ∀ q, q < w.heap.size + 2 → w3.heap[q]? = (W.setCell ⟨w.heap.size + 1, b, none⟩ (.bool true)).heap[q]? := fun q hq => by
    rw [hg.block q (by simp only [World.size_alloc]; omega) (fun e => by have := hlt _ e.symm; omega)]
    exact ((Below.refl _ (W.setCell ⟨w.heap.size + 1, b, none⟩ (.bool true))).alloc (Nat.le_refl _) (.cells #[.int .i64 b] T)).block q (by omega)
  refine ⟨⟨R.cfg.cfg, by rw [hbl _ (by omega), heap_setCell_other _ _ _ _ (by show w.heap.size ≠ w.heap.size + 1; omega)]; exact R.cfg.block⟩, fun l hl => ?_, fun l hl => ?_, ?_, ?_, ?_⟩
  · rw [World.cell?_of_block (hbl (w.heap.size + 1) (by omega)), seenB_succ, hb]
    by_cases h : l = b
    · subst h
      rw [World.cell?_setCell_same _ _ _ (R.seen l hl)]; simp
    · rw [World.cell?_setCell_other _ _ _ _ (fun h2 => h (congrArg Addr.off h2).symm), R.seen l hl]
      simp [Ne.symm h]
  · rw [World.frozen?_of_block (hbl (w.heap.size + 1) (by omega)), World.frozen?_setCell]; exact R.free l hl
  · have e : (ordL g k n).take (j + 1) = (ordL g k n).take j ++ [(ordL g k n)[j]!] := by
      rw [List.take_succ_eq_append_getElem (by omega), getElem!_pos (ordL g k n) j (by omega)]
    rw [e, List.map_append]
    show w3.ownsRow _ _ _ _ _ (_ ++ [encN _])
    unfold encN
    rw [hb]; exact hown
  · exact ((R.below.setCell (p := ⟨w.heap.size + 1, b, none⟩) (by show w.heap.size ≤ w.heap.size + 1; omega) _).alloc (by rw [hW]; omega) _).grown hg (by simp only [World.size_alloc]; omega) (fun q hq => by have := hlt q hq; omega)
  · have := hg.size
    simp only [World.size_alloc] at this; omega

set_option maxHeartbeats 4000000 in
set_option maxRecDepth 100000 in
theorem reforder_any (A : Array Value) (g : Nat → Int) (k n : Nat) (w : World) (hA : Cfg A g) (G : Good g) (hn : g 0 = n) (hk : k < n) :
    Calls Try.prog 26 #[.agg A, .int .i64 k] w fun e w' => ∃ v, e = .returned v ∧ RefOAt A g w w' n k n v := by
  obtain ⟨i0, hi, hz0, hz1, hz2⟩ := info_parts info3
  have hn8 : n ≤ 8 := by have := G.n2; omega
  have HS := Lib.hid (refo_start w n k 56 hA)
  have HN := Lib.hid hn
  clear hA hn G
  go_enter Try.func26, Try.ntmps26
  go_wp2_with (fail)
  go_loopw [5, 7, 8] (fun v _ _ wr => ∃ j : Nat, j ≤ n ∧ lenV v = j ∧ Hid (RefOAt A g w wr n k j v)) (fun v _ _ _ => n - lenV v)
  case atStart => exact ⟨0, Nat.zero_le _, rfl, HS⟩
  case round =>
    obtain ⟨j, hj, _, HR⟩ := hrel
    obtain ⟨p, c, rfl⟩ := HR.out.shape
    have c0 := HR.out.cfg.cell 0 (by decide)
    rw [HN.out] at c0
    by_cases hlt : j < n
    · go_wp2_with (fail)
      clear c0
      have ik : (k : Int) < 8 := by omega
      go_loopw [7, 8] (fun b x wr => ∃ i : Nat, ∃ z : Int, i ≤ n ∧ x = .int .i64 i ∧ b = .int .i64 z ∧ Hid (BestAt g k n j i z) ∧ Hid (RefOAt A g w wr n k j (.slice p j c))) (fun _ x _ => n - (intOf x).toNat)
      case atStart => exact ⟨0, -1, Nat.zero_le _, rfl, rfl, Lib.hid (.inl ⟨rfl, fun l h => absurd h (Nat.not_lt_zero _)⟩), HR⟩
      case round =>
        clear HR
        obtain ⟨i, z, hi2, rfl, rfl, HB, HR⟩ := hrel
        have c0 := HR.out.cfg.cell 0 (by decide)
        rw [HN.out] at c0
        by_cases hli : i < n
        · have ii : (i : Int) < 8 := by omega
          have cs := HR.out.seen i (by omega)
          have HB2 := HB.out
          cases hs : seenB (ordL g k n) j i with
          | true =>
            rw [hs] at cs
            have HX := Lib.hid (show BestAt g k n j (i + 1) z by
              rcases HB2 with ⟨h1, h2⟩ | ⟨b, h1, h2, h3, h4⟩
              · exact .inl ⟨h1, fun l hl => by
                  by_cases e : l = i
                  · subst e; exact hs
                  · exact h2 l (by omega)⟩
              · exact .inr ⟨b, h1, by omega, h3, fun l hl hsl => by
                  by_cases e : l = i
                  · subst e; rw [hs] at hsl; cases hsl
                  · exact h4 l (by omega) hsl⟩)
            clear HB2 hs
            go_wp2_with (fail)
            go_quiet (fail)
            go_wp2_with (fail)
            go_roundw
            case rel => exact ⟨i + 1, z, hli, by go_num, rfl, HX, Lib.hid (HR.out.drewN _)⟩
            case measure => simp [intOf]; omega
          | false =>
            rw [hs] at cs
            rcases HB2 with ⟨h1, h2⟩ | ⟨b, h1, h2, h3, h4⟩
            · have HX := Lib.hid (show BestAt g k n j (i + 1) i from .inr ⟨i, rfl, by omega, hs, fun l hl hsl => by
                by_cases e : l = i
                · exact .inl e
                · rw [h2 l (by omega)] at hsl; cases hsl⟩)
              subst h1
              clear h2 hs
              go_wp2_with (fail)
              go_quiet (fail)
              go_wp2_with (fail)
              go_roundw
              case rel => exact ⟨i + 1, i, hli, by go_num, rfl, HX, Lib.hid (HR.out.drewN _)⟩
              case measure => simp [intOf]; omega
            · have ib : (b : Int) < 8 := by omega
              have d1 : decide ((b : Int) < 0) = false := by simp
              have ci := HR.out.cfg.cell (26 + k * 8 + i) (by omega)
              have cb := HR.out.cfg.cell (26 + k * 8 + b) (by omega)
              have HW := Lib.hid (show Nearer g k b i ↔ (g (26 + k * 8 + b) < g (26 + k * 8 + i) ∨ g (26 + k * 8 + b) = g (26 + k * 8 + i) ∧ b < i) from Iff.rfl)
              have HV := Lib.hid (show ∀ l, Nearer g k b l → g (26 + k * 8 + i) < g (26 + k * 8 + b) → Nearer g k i l from fun l h1 h2 => by unfold Nearer at h1 ⊢; omega)
              have HU := Lib.hid (show g (26 + k * 8 + i) < g (26 + k * 8 + b) → Nearer g k i b from fun h => .inl h)
              generalize g (26 + k * 8 + i) = x at ci HW HV HU
              generalize g (26 + k * 8 + b) = y at cb HW HV HU
              by_cases hxy : x < y
              · have HX := Lib.hid (show BestAt g k n j (i + 1) i from .inr ⟨i, rfl, by omega, hs, fun l hl hsl => by
                  by_cases e : l = i
                  · exact .inl e
                  · rcases h4 l (by omega) hsl with e2 | e2
                    · subst e2; exact .inr (HU.out hxy)
                    · exact .inr (HV.out l e2 hxy)⟩)
                subst h1
                clear h3 h4 hs
                go_wp2_with (fail)
                go_quiet (fail)
                go_wp2_with (fail)
                go_roundw
                case rel => exact ⟨i + 1, i, hli, by go_num, rfl, HX, Lib.hid (HR.out.drewN _)⟩
                case measure => simp [intOf]; omega
              · have d2 : decide (x < y) = false := by simpa using hxy
                have HX := Lib.hid (show BestAt g k n j (i + 1) z from .inr ⟨b, h1, by omega, h3, fun l hl hsl => by
                  by_cases e : l = i
                  · subst e; exact .inr (HW.out.2 (by omega))
                  · exact h4 l (by omega) hsl⟩)
                subst h1
                clear h3 h4 hs hxy
                go_wp2_with (fail)
                go_quiet (fail)
                go_wp2_with (fail)
                go_roundw
                case rel => exact ⟨i + 1, b, hli, by go_num, rfl, HX, Lib.hid (HR.out.drewN _)⟩
                case measure => simp [intOf]; omega
        · obtain rfl : i = n := by omega
          have hz := best_done hn8 hlt HB.out
          obtain ⟨b, hb⟩ : ∃ b, b = ((ordL g k i)[j]!).val := ⟨_, rfl⟩
          have hbn : b < i := by rw [hb]; exact ordL_lt hn8 hlt
          rw [← hb] at hz
          subst hz
          have ib : (b : Int) < 8 := by omega
          have cs := HR.out.seen b (by omega)
          have fs := HR.out.free b (by omega)
          have HO := Lib.hid (own_store HR.out b (.bool true))
          have HBB := Lib.hid hb
          clear hb
          go_wp2_with (at_builtin; refine wpList_append_own _ rfl _ _ 31 rfl (w.heap.size + 2) 3 i0 (.int .i64 0) 1 8 Try.underlying31 hi hz0 hz1 hz2 rfl (by decide) _ _ _ rfl (HO.out.alloc _) ⟨wr.heap.size, 0, none⟩ 1 1 [.int .i64 b] rfl rfl ?c1 ?c2 ?c3 ?c4 ?c5 ?_)
          case c1 => exact (show (wr.setCell ⟨w.heap.size + 1, b, none⟩ (.bool true)).heap.size = wr.heap.size by simp [World.setCell]) ▸ one_new (wr.setCell ⟨w.heap.size + 1, b, none⟩ (.bool true)) _ _
          case c2 => intro u hu; simp at hu; subst hu; rfl
          case c3 => unfold maxLen; omega
          case c4 => omega
          case c5 => have := HR.out.size; simp [World.setCell]; omega
          intro v' w3 hown' hgrow _
          have HX := Lib.hid (refo_step HR.out hlt (by omega) HBB.out.symm (by rw [List.map_take]; exact hown') hgrow)
          clear hown' hgrow HO HR cs fs
          obtain ⟨p', c', rfl⟩ := HX.out.shape
          go_wp2_with (fail)
          go_roundw
          case rel => exact ⟨j + 1, hlt, rfl, HX⟩
          case measure => simp [lenV]; omega
    · obtain rfl : j = n := by omega
      go_wp2_with (fail)
      go_ret
      exact ⟨_, rfl, HR.out⟩
end Go.Proofs.Ytcbdmdalijhkoaa
