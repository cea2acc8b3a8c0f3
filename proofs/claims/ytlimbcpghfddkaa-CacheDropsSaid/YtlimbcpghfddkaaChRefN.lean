/-
  chain's document: New.
-/
import Derived.Test.YtlimbcpghfddkaaChRefG
namespace Go.Proofs.Ytlimbcpghfddkaa
open Go.RowKit Go

def isBuildC : Op → Bool
  | .build .. => true
  | _ => false
theorem wpList_buildC {P : Program} {ops : Array Oper} {rest : List Oper} {op : Oper} {a : Act} {w : World} {Q : Exit → Act → World → Prop} (hgd : op.guard = none) (_ : isBuildC op.op = true) (v : Value) (hr : (execOp a.eval op).run P w = .ok (.value v) w)
    (h : wpList P ops Q rest (a.put op.dst v) w) : wpList P ops Q (op :: rest) a w :=
  wpList_plain hgd fun _ hK => by
    unfold Oper.wp
    simp only [hr]
    exact hK _ _ h
/-- A slab's cells as a value. -/
def crA (bb bc : Nat) (sz co n : Int) : Array Value := #[.slice (some ⟨bb, 0, none⟩) 256 bc, .int .i64 sz, .int .i64 co, .int .i64 n, .slice none 0 0] ++ (Array.replicate 32 (.bool false) ++ Array.replicate 32 (.int .u64 0))
/-- A slab without a chain. -/
def sl0 (sz co : Nat) (f : Nat → UInt8) (l : List Nat) : Sl := ⟨sz, co, l, fun _ => false, fun _ => 0, f⟩
theorem crA_at (bb bc sz co n : Nat) (hn : (256 - co) / sz = n) (f : Nat → UInt8) (l : List Nat) : ∀ i, i < 69 → (crA bb bc sz co n)[i]? = some (crV (sl0 sz co f l) bb bc (.slice none 0 0) i) := by
  subst hn
  intro i hi
  unfold crA
  by_cases h : i < 5
  · rw [Array.getElem?_append_left (by simpa using h)]
    rcases (show i = 0 ∨ i = 1 ∨ i = 2 ∨ i = 3 ∨ i = 4 by omega) with rfl | rfl | rfl | rfl | rfl <;> rfl
  · rw [Array.getElem?_append_right (by simp; omega)]
    by_cases h2 : i < 37
    · obtain ⟨j, rfl⟩ : ∃ j, i = 5 + j := ⟨i - 5, by omega⟩
      rw [crV_out _ bb bc _ (by omega), Array.getElem?_append_left (by simp; omega), Array.getElem?_replicate]
      rw [if_pos (by simp; omega)]
      rfl
    · obtain ⟨j, rfl⟩ : ∃ j, i = 37 + j := ⟨i - 37, by omega⟩
      rw [crV_tu, Array.getElem?_append_right (by simp; omega), Array.getElem?_replicate]
      rw [if_pos (by simp; omega)]
      rfl
theorem natV_range (k : Nat) : natV (List.range (k + 1)) = natV (List.range k) ++ (#[Value.int .i64 (k : Int)] : Array Value).toList := by
  unfold natV
  rw [List.range_succ, List.map_append]
  rfl
/-- While the chain is made. -/
structure NwC (w : World) (r bb bc sz co : Nat) (f : Nat → UInt8) (k : Nat) (v : Value) (W : World) : Prop where
  row : RowAt W r 69 (crV (sl0 sz co f []) bb bc v)
  own : W.ownsRow (r + 1) 3 1 v k (natV (List.range k))
  byt : RowAt W bb 256 (byV f)
  bel : Below w.heap.size w W
  r1 : r = w.heap.size
  lt : r + 1 ≤ W.heap.size
theorem NwC.later {w W W' : World} {r bb bc sz co k : Nat} {f : Nat → UInt8} {v : Value} (H : NwC w r bb bc sz co f k v W) (h : Below W.heap.size W W') : NwC w r bb bc sz co f k v W' :=
  ⟨H.row.later h, owns_later H.own h, H.byt.later h, H.bel.trans (h.mono (by have := H.r1; have := H.lt; omega)), H.r1, Nat.le_trans H.lt h.size⟩
theorem crV_set (S : Sl) (bb bc : Nat) (v v' : Value) (i : Nat) : updV (crV S bb bc v) 4 v' i = crV S bb bc v' i := by
  unfold updV
  by_cases e : i = 4
  · subst e
    rfl
  · rw [if_neg e]
    unfold crV
    rw [if_neg e, if_neg e]
theorem NwC.more {w W W' : World} {r bb bc sz co k : Nat} {f : Nat → UInt8} {v v' : Value} (H : NwC w r bb bc sz co f k v W) (hbb : bb < r) (hown : W'.ownsRow (r + 1) 3 1 v' (k + 1) (natV (List.range k) ++ (#[Value.int .i64 (k : Int)] : Array Value).toList)) (ho : Only (fun q => v.ownBlock = some q) W W') :
    NwC w r bb bc sz co f (k + 1) v' (W'.setCell ⟨r, 4, none⟩ v') := by
  have hb : ∀ q, v.ownBlock = some q → r + 1 ≤ q := fun q h => (H.own.lt q h).1
  have hs : Only (fun q => q = r) W' (W'.setCell ⟨r, 4, none⟩ v') := Only.setCell (S := fun q => q = r) _ ⟨r, 4, none⟩ rfl _
  have hr1 := H.r1
  have hlt := H.lt
  refine ⟨((H.row.only ho (fun h => by have := hb _ h; omega)).setCell 4 v').ext (fun i _ => crV_set _ bb bc v v' i), ?_, (H.byt.only ho (fun h => by have := hb _ h; omega)).only hs (by omega), ?_, H.r1, ?_⟩
  · rw [natV_range]
    exact owns_only hown hs (fun q h e => by have := (hown.lt q h).1; omega)
  · have h1 := ho.below H.bel (by omega) (fun q h => by have := hb q h; omega)
    exact hs.below h1 (by have := ho.size; omega) (fun q h => by omega)
  · have := ho.size
    have := hs.size
    omega
/-- A new slab, or none. -/
def NewC (w : World) (bb bc : Nat) (S : Sl) (e : Ending) (w' : World) : Prop :=
  ∃ r v, e = .returned (.tuple #[.pointer (some ⟨r, 0, none⟩), .int .i64 0]) ∧ CRef w' r bb bc S v ∧ Only (fun k => k = bb) w w' ∧ w.heap.size ≤ r
set_option maxRecDepth 100000 in
set_option maxHeartbeats 4000000 in
theorem rnew_no (a : Option Addr) (n c : Nat) (size colour : Int) (w : World) (h : n ≠ 256 ∨ mayC size colour = false) :
    Calls Try.prog 38 #[.slice a n c, .int .i64 size, .int .i64 colour] w fun e w' => e = .returned (.tuple #[.pointer none, .int .i64 2]) ∧ w = w' := by
  by_cases hn : n = 256
  · subst hn
    have hm : mayC size colour = false := h.resolve_left (fun h => h rfl)
    go_enter Try.func38, Try.ntmps38
    go_wp2_with (fail)
    refine (rmay_any size colour w).mono ?_
    rintro e w' ⟨rfl, rfl⟩
    rw [hm]
    go_wp2_with (fail)
    go_ret2
    exact ⟨rfl, rfl⟩
  · have hnb : ((n : Int) == 256) = false := by simp; omega
    go_enter Try.func38, Try.ntmps38
    go_wp2_with (fail)
    go_ret2
    exact ⟨rfl, rfl⟩
set_option maxRecDepth 100000 in
set_option maxHeartbeats 4000000 in
theorem rnew_any (sz co bb bc : Nat) (f : Nat → UInt8) (w : World) (hm : mayC sz co = true) (hb : RowAt w bb 256 (byV f)) :
    Calls Try.prog 38 #[.slice (some ⟨bb, 0, none⟩) 256 bc, .int .i64 sz, .int .i64 co] w (NewC w bb bc (Sl.new sz co f)) := by
  obtain ⟨i0, hi, hz0, hz1, hz2⟩ := info_parts intInfoC
  obtain ⟨p1, p2, p3, p4, p5, p6⟩ := may_parts hm
  obtain ⟨n32, n1, _, _⟩ := cnt_le hm
  obtain ⟨n, hn⟩ : ∃ n, (256 - co) / sz = n := ⟨_, rfl⟩
  have hq : (256 - (co : Int)) / (sz : Int) = (n : Int) := by
    rw [← hn, Int.natCast_ediv, Int.natCast_sub (by omega)]
    rfl
  rw [hn] at n32 n1
  have HM := Lib.hid hm
  have HR0 := Lib.hid (RowAt.new w (crA bb bc sz co n) 79 69 _ (crA_at bb bc sz co n hn f []))
  have hba : Below w.heap.size w (w.alloc (.cells (crA bb bc sz co n) 79)) := (Below.refl _ _).alloc (Nat.le_refl _) _
  have HN0 := Lib.hid (show NwC w w.heap.size bb bc sz co f 0 (.slice none 0 0) (w.alloc (.cells (crA bb bc sz co n) 79)) from ⟨HR0.out, World.ownsRow_nil _ _ _ _, hb.later hba, hba, rfl, by simp⟩)
  have hbl := hb.lt
  have HNN := Lib.hid hn
  clear hba HR0 hb hm hn
  have HQ := Lib.hid hq
  have hsz : ¬ ((sz : Int) = 0) := by omega
  go_enter Try.func38, Try.ntmps38
  go_wp2_with (fail)
  refine (rmay_any sz co w).mono ?_
  rintro e w' ⟨rfl, rfl⟩
  rw [HM.out]
  go_wp2_with (first | (refine wpList_buildC rfl rfl (.agg (crA bb bc sz co ((256 - (co : Int)) / (sz : Int)))) (by kernel_rfl) ?_; rw [HQ.out]) | fail)
  generalize w.alloc (.cells (crA bb bc sz co n) 79) = w1 at *
  obtain ⟨r, hr⟩ : ∃ r, w.heap.size = r := ⟨_, rfl⟩
  rw [hr] at HN0 hbl ⊢
  go_loopw [9] (fun q wr => ∃ (k : Nat) (v : Value), k ≤ n ∧ q = .int .i64 k ∧ Hid (NwC w r bb bc sz co f k v wr)) (fun q _ => n - (intOf q).toNat)
  case atStart => exact ⟨0, _, Nat.zero_le _, rfl, HN0⟩
  case round =>
    clear HN0
    obtain ⟨k, v, hk, rfl, HN⟩ := hrel
    have c3 : wr.cell? ⟨r, 3, none⟩ = some (.int .i64 n) := by
      have h : wr.cell? ⟨r, 3, none⟩ = some (.int .i64 (((256 - co) / sz : Nat) : Int)) := HN.out.row.cell 3 (by decide)
      rw [HNN.out] at h
      exact h
    by_cases hlt : k < n
    · have hltI : (k : Int) < (n : Int) := by omega
      have c4 : wr.cell? ⟨r, 4, none⟩ = some v := HN.out.row.cell 4 (by decide)
      obtain ⟨a, cc, hv, _⟩ := owns_slice HN.out.own
      subst hv
      have HOW := Lib.hid HN.out.own
      have HLE := Lib.hid HN.out.lt
      have HOC := Lib.hid (fun q h => (HN.out.own.lt q h).1)
      go_wp2_with (first | (at_builtin; refine wpList_append_one wr rfl _ _ 52 rfl (r + 1) 3 i0 _ 1 8 Try.underlying52 hi hz0 hz1 hz2 rfl (by decide) _ _ _ #[.int .i64 k] HOW.out HLE.out rfl rfl rfl (one_cell _ _) (by omega) (by decide) ?_; intro v3 w3 hown3 ho3 _; obtain ⟨a3, cc3, rfl, _⟩ := owns_slice hown3; have hrow3 := HN.out.row.only ho3 (fun h => by have := HOC.out _ h; omega); have c43 := hrow3.cell 4 (by decide); have f43 := hrow3.frozen 4) | fail)
      have HN3 := Lib.hid (HN.out.more hbl hown3 ho3)
      clear hown3 ho3 hrow3 c43 f43 c4 c3 HN HOW HLE HOC
      go_wp2_with (fail)
      go_roundw
      case rel => exact ⟨k + 1, _, hlt, by go_num, HN3⟩
      case measure => simp [intOf]; omega
    · obtain rfl : k = n := by omega
      have hCh : ChIn wr r bb v (List.range k) := ChIn.of_owns (by rw [List.length_range]; exact HN.out.own) (Nat.lt_succ_self r) (by omega)
      have HCR := Lib.hid (show CRef wr r bb bc (sl0 sz co f (List.range k)) v from ⟨HN.out.row.ext (fun i _ => rfl), HN.out.byt, hCh, by omega⟩)
      clear hCh
      go_wp2_with (fail)
      refine (rwrite_any HCR.out HM.out (fun i hi => by
        have h1 : i < k := List.mem_range.1 hi
        show i < (256 - co) / sz
        rw [HNN.out]
        exact h1) (by show (List.range k).length ≤ 100; rw [List.length_range]; omega)).mono ?_
      rintro e w5 ⟨rfl, hR5, ho5⟩
      have HF := Lib.hid (show NewC w bb bc (Sl.new sz co f) (.returned (.tuple #[.pointer (some ⟨r, 0, none⟩), .int .i64 0])) w5 from ⟨r, v, rfl, by
        have e : Sl.new sz co f = wrS (sl0 sz co f (List.range k)) (List.range k).length := by
          unfold Sl.new wrS sl0
          dsimp only
          rw [HNN.out]
        rw [e]
        exact hR5, (Only.of_below (by rw [hr]; exact (by rw [← hr]; exact HN.out.bel))).trans ho5, by omega⟩)
      clear hR5 ho5
      go_wp2_with (fail)
      go_ret2
      exact HF.out
end Go.Proofs.Ytlimbcpghfddkaa
