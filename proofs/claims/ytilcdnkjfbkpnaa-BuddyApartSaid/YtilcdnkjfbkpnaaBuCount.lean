/-
  BuddyPowers: the closure that counts the free blocks.
-/
import Derived.Test.YtilcdnkjfbkpnaaBuRange
import Derived.Test.YtilcdnkjfbkpnaaBuSum
namespace Go.Proofs.Ytilcdnkjfbkpnaa
open Go.RowKit Go.Shelf Go
attribute [local go_sem] Oper.semAt_some

section
variable {w : World} {d n : Nat} {mb : Nat → Nat} {tb : Nat} {L T : List (Int × Int)}
theorem Inv.len (I : Inv n L T) : L.length ≤ 128 := by
  have := nodup_short 128 (L.map (·.1)) (List.Pairwise.map _ (fun {p q} h e => by
    have h : p.1 < q.1 := h
    omega) I.ris) (fun x hx => by
    obtain ⟨p, hp, rfl⟩ := List.mem_map.1 hx
    obtain ⟨a, o, rfl⟩ := I.nat p hp
    have h3 := (I.stk.al o a (.inl hp)).2.2
    have hpw := Nat.one_le_two_pow (n := o)
    have := I.n2
    exact ⟨by show (0 : Int) ≤ (a : Int); omega, by show (a : Int) < ((128 : Nat) : Int); omega⟩)
  simpa using this
theorem keeps_cell {W : World} {rc B : Nat} (v : Value) : KpC (fun k => k = rc) B W (W.setCell ⟨rc, 0, none⟩ v) := KpC.of_only (Only.setCell (S := fun k => k = rc) W ⟨rc, 0, none⟩ rfl v)
set_option maxRecDepth 100000 in
set_option maxHeartbeats 4000000 in
theorem count_in (m : Nat) (hm : 3 ≤ m) (bb : Nat) (N : NodeAt w d n mb tb L T) (I : Inv n L T) (hbb : w.cell? ⟨bb, 0, none⟩ = some (.pointer (some ⟨d, 0, none⟩))) :
    CallsIn Fence.wide m Try.prog 24 #[.pointer (some ⟨bb, 0, none⟩)] w fun e w' => e = .returned (.int .i64 L.length) ∧ Below w.heap.size w w' := by
  have h1 : 1 ≤ m := by omega
  have hnil := blocks_nil
  have hll := I.len
  refine callsIn_of_wp_marks Try.func24 rfl trivial ?_ rfl
  simp only [Try.ntmps24, List.size_toArray, List.length_cons, List.length_nil, Nat.reduceAdd, Nat.reduceSub, Array.replicate_succ, Array.replicate_zero, List.push_toArray, List.append_toArray, List.nil_append, List.cons_append]
  have hbl : bb < w.heap.size := World.block_lt_of_cell? _ _ hbb
  have hb1 : (w.alloc (.cells #[.int .i64 0] 3)).cell? ⟨bb, 0, none⟩ = some (.pointer (some ⟨d, 0, none⟩)) := by
    rw [((Below.refl w.heap.size w).alloc (Nat.le_refl _) _).cell (p := ⟨bb, 0, none⟩) hbl]; exact hbb
  have hb2 : ((w.alloc (.cells #[.int .i64 0] 3)).alloc (.cells #[.pointer (some ⟨d, 0, none⟩)] 23)).cell? ⟨bb, 0, none⟩ = some (.pointer (some ⟨d, 0, none⟩)) := by
    rw [(((Below.refl w.heap.size w).alloc (Nat.le_refl _) _).alloc (by simp) _).cell (p := ⟨bb, 0, none⟩) hbl]; exact hbb
  gi_wp2_with (fail)
  refine ⟨trivial, (callsIn_wide.2 (blocks_any _ _)).mono ?_⟩
  rintro e w' ⟨rfl, rfl⟩
  gi_wp2_with (fail)
  refine ⟨trivial, (callsIn_wide.2 (blocks_any _ _)).mono ?_⟩
  rintro e w' ⟨rfl, rfl⟩
  gi_wp2_with (fail)
  rw [show w.heap.size + 1 + 1 = w.heap.size + 2 from rfl]
  have hbw : Below w.heap.size w (((w.alloc (.cells #[.int .i64 0] 3)).alloc (.cells #[.pointer (some ⟨d, 0, none⟩)] 23)).alloc (.cells #[.pointer (some ⟨d, 0, none⟩)] 23)) := (((Below.refl _ w).alloc (Nat.le_refl _) _).alloc (by simp) _).alloc (by simp; omega) _
  have c0 : (((w.alloc (.cells #[.int .i64 0] 3)).alloc (.cells #[.pointer (some ⟨d, 0, none⟩)] 23)).alloc (.cells #[.pointer (some ⟨d, 0, none⟩)] 23)).cell? ⟨w.heap.size, 0, none⟩ = some (.int .i64 0) := by simp [go_sem]
  have f0 : (((w.alloc (.cells #[.int .i64 0] 3)).alloc (.cells #[.pointer (some ⟨d, 0, none⟩)] 23)).alloc (.cells #[.pointer (some ⟨d, 0, none⟩)] 23)).frozen? ⟨w.heap.size, 0, none⟩ = false := by simp [go_sem]
  have cs : (((w.alloc (.cells #[.int .i64 0] 3)).alloc (.cells #[.pointer (some ⟨d, 0, none⟩)] 23)).alloc (.cells #[.pointer (some ⟨d, 0, none⟩)] 23)).cell? ⟨w.heap.size + 2, 0, none⟩ = some (.pointer (some ⟨d, 0, none⟩)) := by simp [go_sem]
  have hs3 : (((w.alloc (.cells #[.int .i64 0] 3)).alloc (.cells #[.pointer (some ⟨d, 0, none⟩)] 23)).alloc (.cells #[.pointer (some ⟨d, 0, none⟩)] 23)).heap.size = w.heap.size + 3 := by simp
  have N3 := N.later hbw
  generalize (((w.alloc (.cells #[.int .i64 0] 3)).alloc (.cells #[.pointer (some ⟨d, 0, none⟩)] 23)).alloc (.cells #[.pointer (some ⟨d, 0, none⟩)] 23)) = w3 at *
  have hseq := blocks_stops (m - 1) (by omega) (w.heap.size + 2) (fun k => k = w.heap.size) I N3 cs (by have := N.lt; omega) (fun k hk => by have := N.own_lt hk; omega) (by omega) (fun k hk => by omega)
  have hdl := N.lt
  clear hb1 hb2
  generalize hrc : w.heap.size = rc at *
  refine wpIn_rangeFunc_ownF rfl h1 (gf := 36) (lb := #[.pointer (some ⟨rc + 2, 0, none⟩)]) (by simp [go_sem]) trivial (enters_of Try.func36 (by kernel_rfl) rfl) hseq KpC.trans
    (fun W l o o' hl h hc _ => KpC.put l o' hl h hc) (Below.refl _ _) (fun x => rfl)
    (fun pre W => Below rc w W ∧ W.cell? ⟨rc, 0, none⟩ = some (.int .i64 pre.length) ∧ W.frozen? ⟨rc, 0, none⟩ = false)
    (fun _ _ _ => False)
    ?own (fun _ _ _ _ _ h => h.elim) ⟨hbw, c0, f0⟩
    (fun x => { tmps := #[.pointer (some ⟨bb, 0, none⟩), .pointer (some ⟨rc, 0, none⟩), .pointer (some ⟨d, 0, none⟩), .func (.func 36) #[] #[.pointer (some ⟨rc + 1, 0, none⟩)], .bool false, .pointer (some ⟨d, 0, none⟩), .func (.func 36) #[] #[.pointer (some ⟨rc + 2, 0, none⟩)], blk (L[x.val]'x.isLt), undef, undef, undef], defers := [] }) ?assign ?body ?done (fun _ _ _ _ _ _ h => h.elim)
  case own =>
    rintro pre A A' row ⟨i2, i3, i4⟩ hg hr
    exact ⟨i2.grown hg (by have := i2.size; omega) (fun r e => by have := (hr r e).1; omega), cell_kept i3 hg (fun r e => (hr r e).2), (frozen_kept i3 hg (fun r e => (hr r e).2)).trans i4⟩
  case assign =>
    intro l x W K hK
    refine wpIn_skip ?_
    simpa [Exit.then] using hK
  case body =>
    rintro l pre x W ⟨i2, i3, i4⟩ hlen
    have HI2 := Lib.hid i2
    have hll2 : pre.length < 128 := by omega
    clear i2 hseq c0 f0 cs hnil hbb
    gi_wp2_with (fail)
    exact ⟨KeepsOthers.setCell _ _ _, keeps_cell _, HI2.out.setCell (p := ⟨rc, 0, none⟩) (Nat.le_refl _) _, by
      rw [List.length_append]
      exact World.cell?_setCell_same' _ _ _ (by rw [i3]; rfl), by rw [World.frozen?_setCell]; exact i4⟩
  case done =>
    rintro D xs W hD hxs ⟨i2, i3, i4⟩ hK
    have hlen : xs.length = L.length := by
      have := congrArg List.length hxs
      simpa using this
    rw [hlen] at i3
    have HK := Lib.hid hK
    have HB := Lib.hid i2
    clear i2 hK hxs hseq c0 f0 cs hnil hbb hlen
    gi_wp2_with (fail)
    have e7 := HB.out.size
    have hc9 : (W.setCell ⟨rc, 0, none⟩ (.int .i64 L.length)).cell? ⟨rc, 0, none⟩ = some (.int .i64 L.length) := World.cell?_setCell_same' _ _ _ (by rw [i3]; rfl)
    have hb9 : Below rc w (W.setCell ⟨rc, 0, none⟩ (.int .i64 L.length)) := HB.out.setCell (p := ⟨rc, 0, none⟩) (Nat.le_refl _) _
    refine leaves_one (by rw [Below.heap_setCell W ⟨rc, 0, none⟩ _ _ (by show D ≠ rc; omega)]; exact HK.out) ?_
    refine ⟨.int .i64 L.length, ?_, rfl, ?_⟩
    · have hc10 := cell_putObj (W.setCell ⟨rc, 0, none⟩ (.int .i64 L.length)) D (.deferred none) ⟨rc, 0, none⟩ (by show rc ≠ D; omega)
      rw [hc9] at hc10
      simp [results, Try.f24, go_sem, hc10]
    · rw [hrc]
      exact below_putObj hb9 D _ (by omega) (by have := hb9.size; omega)
theorem count_any (bb : Nat) (N : NodeAt w d n mb tb L T) (I : Inv n L T) (hbb : w.cell? ⟨bb, 0, none⟩ = some (.pointer (some ⟨d, 0, none⟩))) :
    Calls Try.prog 24 #[.pointer (some ⟨bb, 0, none⟩)] w fun e w' => e = .returned (.int .i64 L.length) ∧ Below w.heap.size w w' := callsIn_wide.1 (count_in 3 (Nat.le_refl _) bb N I hbb)
end
end Go.Proofs.Ytilcdnkjfbkpnaa
