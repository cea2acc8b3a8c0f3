/-
  buddy: the free block to take one from.
-/
import Derived.Test.YtilcdnkjfbkpnaaBuBud
import Derived.Test.YtilcdnkjfbkpnaaBuKeys
import Derived.Laws.ResultCell
import Derived.Laws.NewBlocks
namespace Go.Proofs.Ytilcdnkjfbkpnaa
open Go.RowKit Go Go.Maps Go.Sort Go.Shelf

/-- The block that is cut. -/
def Pick (L : List (Int × Int)) (od : Int) (high : Bool) (x : Int × Int) : Prop :=
  x ∈ L ∧ od ≤ x.2 ∧ (∀ p ∈ L, od ≤ p.2 → x.2 ≤ p.2) ∧ ∀ p ∈ L, p.2 = x.2 → if high = true then p.1 ≤ x.1 else x.1 ≤ p.1
theorem pick_none {L : List (Int × Int)} {od : Int} {high : Bool} (h : ∀ p ∈ L, ¬ od ≤ p.2) : pickK L od high L.length = -1 := by
  rcases pick_spec L od high L.length with h1 | ⟨j, _, h2, h3, _⟩
  · exact h1.1
  · rw [getD_at h2] at h3
    exact absurd h3 (h _ (List.getElem_mem h2))
theorem pick_is {L : List (Int × Int)} {od : Int} {high : Bool} {x : Int × Int} (hR : Rising L) (h : Pick L od high x) : ¬ pickK L od high L.length < 0 ∧ L.getD (pickK L od high L.length).toNat (0, 0) = x := by
  obtain ⟨hx, h1, h2, h3⟩ := h
  obtain ⟨i, hi, hix⟩ := List.mem_iff_getElem.1 hx
  rcases pick_spec L od high L.length with ⟨_, h4⟩ | ⟨j, h4, h5, h6, h7⟩
  · have := h4 i hi
    rw [getD_at hi, hix] at this
    omega
  · rw [h4, Int.toNat_natCast, getD_at h5]
    rw [getD_at h5] at h6
    refine ⟨by omega, ?_⟩
    obtain ⟨h8, h9⟩ := h7 i hi (by rw [getD_at hi, hix]; exact h1)
    rw [getD_at hi, hix, getD_at h5] at h8 h9
    have hj := List.getElem_mem h5
    have e2 : L[j].2 = x.2 := by have := h2 _ hj h6; omega
    have h10 := h9 e2.symm
    have h11 := h3 _ hj e2
    have hij : i = j := by
      have e3 := hR.index hi h5
      have e4 := hR.index h5 hi
      rw [hix] at e3 e4
      cases high with
      | true =>
        rw [if_pos rfl] at h10 h11
        have := e4.2 h11
        omega
      | false =>
        rw [if_neg (by decide)] at h10 h11
        have := e3.2 h11
        omega
    subst hij
    exact hix

theorem len_no {l : List Int} {x : Int} (h : x ∈ l) : ((l.length : Int) == 0) = false := by
  have h1 := List.length_pos_of_mem h
  have h2 : (l.length : Int) ≠ 0 := by omega
  simpa using h2
theorem len_all {l : List Int} (h : ∀ x, x ∉ l) : ((l.length : Int) == 0) = true := by
  obtain rfl := List.eq_nil_iff_forall_not_mem.2 h
  rfl
theorem keys_at {w : World} {B m : Nat} {v : Value} {zs : List Int} (h : w.ownsRow B 3 1 v zs.length (zs.map encZ)) (hm : zs.length = m + 1) : ∃ g cap, v = .slice (some ⟨g, 0, none⟩) (m + 1) cap ∧ B ≤ g ∧ ∀ i, ∀ hi : i < zs.length, w.cell? ⟨g, i, none⟩ = some (.int .i64 zs[i]) := by
  obtain ⟨a, cap, hv, hp⟩ := owns_slice h
  obtain ⟨g, rfl, hg, _, A, t, hA, hx⟩ := hp (by omega)
  refine ⟨g, cap, by rw [hv, hm], hg, fun i hi => ?_⟩
  rw [cell_of_row _ _ _ _ _ _ hA, hx i (by omega)]
  simp [hi, encZ]
theorem set_block {w : World} {B : Nat} {x0 y0 : Int} (R : RowAt w B 2 (blkV x0 y0)) (x y : Int) : RowAt ((w.setCell ⟨B, 0, none⟩ (.int .i64 x)).setCell ⟨B, 1, none⟩ (.int .i64 y)) B 2 (blkV x y) :=
  ((R.setCell 0 _).setCell 1 _).ext fun i hi => by
    unfold updV blkV
    rcases (show i = 0 ∨ i = 1 by omega) with rfl | rfl <;> simp
/-- Two results, the first a block that lies in a cell. -/
theorem ret_block {fn : Func} {p u : Tmp} (h : fn.results = #[.cell p 42, .tmp u]) {a : Act} {w : World} {Q : Ending → World → Prop} {B : Nat} {x y : Int} {b : Value} (hp : a.tmps.getD p undef = .pointer (some ⟨B, 0, none⟩)) (hu : a.tmps.getD u undef = b) (hd : a.defers = [])
    (R : RowAt w B 2 (blkV x y)) (hR : Q (.returned (.tuple #[.agg #[.int .i64 x, .int .i64 y], b])) w) : bodyPost Try.prog fn Q .ret a w := by
  refine bodyPost_ret_by ?_ hd hR
  rw [results_cell_tmp h, hp, hu]
  have hl := load_block (R.cell 0 (by decide)) (R.cell 1 (by decide))
  simp only [asAddr, Sem.run_pure, Result.andThen_ok, hl]
section
variable {w : World} {d n : Nat} {mb : Nat → Nat} {tb : Nat} {L T : List (Int × Int)}
def Least6 (w : World) (L : List (Int × Int)) (od : Nat) (high : Bool) (e : Ending) (w' : World) : Prop :=
  Below w.heap.size w w' ∧ ((∃ x q : Nat, Pick L od high ((x : Int), (q : Int)) ∧ e = .returned (.tuple #[.agg #[.int .i64 x, .int .i64 q], .bool true])) ∨ ((∀ p ∈ L, ¬ (od : Int) ≤ p.2) ∧ e = .returned (.tuple #[.agg #[.int .i64 0, .int .i64 0], .bool false])))
set_option maxRecDepth 100000 in
set_option maxHeartbeats 2000000 in
theorem least_any (N : NodeAt w d n mb tb L T) (hL : ∀ p ∈ L, ∃ a o : Nat, p = ((a : Int), (o : Int)) ∧ o ≤ 10) {od : Nat} (ho : od ≤ 10) (high : Bool) :
    Calls Try.prog 29 #[.pointer (some ⟨d, 0, none⟩), .int .i64 od, .bool high] w (Least6 w L od high) := by
  have HN0 := Lib.hid (N.later ((Below.refl _ w).alloc (Nat.le_refl _) (.cells #[.int .i64 0, .int .i64 0] 42)))
  have HB0 := Lib.hid ((Below.refl w.heap.size w).alloc (Nat.le_refl _) (.cells #[.int .i64 0, .int .i64 0] 42))
  have HX0 := Lib.hid (block_row w 0 0)
  go_enter Try.func29, Try.ntmps29
  go_wp2_with (fail)
  generalize hBB : w.heap.size = B at *
  generalize w.alloc (.cells #[.int .i64 0, .int .i64 0] 42) = w1 at *
  go_loopw [1] (fun i wr => ∃ s : Nat, i = .int .i64 s ∧ od ≤ s ∧ s ≤ 11 ∧ Hid (∀ p ∈ L, (od : Int) ≤ p.2 → (s : Int) ≤ p.2) ∧ NodeAt wr d n mb tb L T ∧ RowAt wr B 2 (blkV 0 0) ∧ Below B w wr) (fun i _ => 11 - (intOf i).toNat)
  case atStart => exact ⟨od, rfl, Nat.le_refl _, by omega, fun p _ h => h, HN0.out, HX0.out, HB0.out⟩
  case round =>
    clear HN0 HB0 HX0
    obtain ⟨s, rfl, hs, hs2, HM, hN, hX, hB⟩ := hrel
    have HN := Lib.hid hN
    have HX := Lib.hid hX
    have HB := Lib.hid hB
    clear hN hX hB
    by_cases hlt : s ≤ 10
    · have hcf := HN.out.cf (o := s) (by omega)
      have hF := HN.out.free s (by omega)
      have hlt2 : (s : Int) ≤ 10 := by omega
      by_cases hc : ∃ x, (x, (s : Int)) ∈ L
      · obtain ⟨x0, hx0⟩ := hc
        go_wp2_with (first | (at_len; (refine wpList_len_fmap rfl _ _ rfl 3 76 Try.underlying45 EU (mb s) (frL L s) rfl hF ?_; intro l hl1 hl2; have hl3 := len_no ((hl2 x0).2 (frL_some.2 hx0)))) | fail)
        refine (keys_any _ _).mono ?_
        rintro e w2 ⟨rfl, rfl⟩
        clear hcf hF hl1 hl2 hl3
        have ha : Below wr.heap.size wr (wr.alloc (.cells #[.map (some (mb s))] 45)) := (Below.refl _ wr).alloc (Nat.le_refl _) _
        have HC := Lib.hid (show (wr.alloc (.cells #[.map (some (mb s))] 45)).cell? ⟨wr.heap.size, 0, none⟩ = some (.map (some (mb s))) by simp [go_sem])
        have HF := Lib.hid ((HN.out.free s (by omega)).later ha)
        have HB2 := Lib.hid (HB.out.trans (ha.mono (by have := HB.out.size; omega)))
        have HX2 := Lib.hid (HX.out.later ha)
        clear ha HB HX
        go_wp2_with (fail)
        refine (sorted_any HF.out wr.heap.size HC.out (m := 128) (fun x hx => HN.out.bnd _ (frL_some.1 hx)) (by decide)).mono ?_
        rintro e w3 ⟨v, zs, rfl, hz1, hz2, hz3, hb3⟩
        obtain ⟨m, hm⟩ : ∃ m, zs.length = m + 1 := ⟨zs.length - 1, by
          have := List.length_pos_of_mem ((hz1 x0).2 (frL_some.2 hx0))
          omega⟩
        have hmb : m < 128 := by
          have := nodup_short 128 zs (hz2.imp fun {a b} h => by omega) (fun x hx => HN.out.bnd _ (frL_some.1 ((hz1 x).1 hx)))
          omega
        obtain ⟨g, cap, rfl, hg, hcz⟩ := keys_at hz3 hm
        have HX3 := Lib.hid (HX2.out.later hb3)
        have HB3 := Lib.hid (HB2.out.trans (hb3.mono (by have := HB2.out.size; omega)))
        clear hz3 hb3 HX2 HB2 HF HC HN
        have b0 := HX3.out.cell 0 (by decide)
        have b1 := HX3.out.cell 1 (by decide)
        have f0 := HX3.out.frozen 0
        have f1 := HX3.out.frozen 1
        have e0 : blkV 0 0 0 = .int .i64 0 := rfl
        have e1 : blkV 0 0 1 = .int .i64 0 := rfl
        rw [e0] at b0
        rw [e1] at b1
        clear e0 e1
        cases high with
        | true =>
          have cm := hcz m (by omega)
          have HP := Lib.hid (show (zs[m], (s : Int)) ∈ L ∧ ∀ p ∈ L, p.2 = (s : Int) → p.1 ≤ zs[m] from ⟨frL_some.1 ((hz1 _).1 (List.getElem_mem _)), fun p hp e => by
            obtain ⟨i, hi, hix⟩ := List.mem_iff_getElem.1 ((hz1 p.1).2 (frL_some.2 (by rw [← e]; exact hp)))
            rw [← hix]
            by_cases h : i = m
            · subst h; exact Int.le_refl _
            · exact Int.le_of_lt (List.pairwise_iff_getElem.1 hz2 i m hi (by omega) (by omega))⟩)
          generalize zs[m] = y at *
          clear hcz hz1 hz2 hx0
          have HF := Lib.hid (show Least6 w L od true (.returned (.tuple #[.agg #[.int .i64 y, .int .i64 s], .bool true])) ((w3.setCell ⟨B, 0, none⟩ (.int .i64 y)).setCell ⟨B, 1, none⟩ (.int .i64 s)) from by
            have h0 : 0 ≤ y := (N.bnd _ HP.out.1).1
            obtain ⟨k, rfl⟩ : ∃ k : Nat, y = k := ⟨y.toNat, by omega⟩
            refine ⟨by rw [hBB]; exact (HB3.out.setCell (p := ⟨B, 0, none⟩) (Nat.le_refl _) _).setCell (p := ⟨B, 1, none⟩) (Nat.le_refl _) _, .inl ⟨k, s, ⟨HP.out.1, by show (od : Int) ≤ (s : Int); omega, HM.out, fun p hp e => by rw [if_pos rfl]; exact HP.out.2 p hp e⟩, rfl⟩⟩)
          have HX4 := Lib.hid (set_block HX3.out y s)
          clear HP HM HB3 HX3
          go_wp2_with (fail)
          exact ret_block (b := .bool true) rfl rfl rfl rfl HX4.out HF.out
        | false =>
          have cm := hcz 0 (by omega)
          have HP := Lib.hid (show (zs[0], (s : Int)) ∈ L ∧ ∀ p ∈ L, p.2 = (s : Int) → zs[0] ≤ p.1 from ⟨frL_some.1 ((hz1 _).1 (List.getElem_mem _)), fun p hp e => by
            obtain ⟨i, hi, hix⟩ := List.mem_iff_getElem.1 ((hz1 p.1).2 (frL_some.2 (by rw [← e]; exact hp)))
            rw [← hix]
            by_cases h : i = 0
            · subst h; exact Int.le_refl _
            · exact Int.le_of_lt (List.pairwise_iff_getElem.1 hz2 0 i (by omega) hi (by omega))⟩)
          generalize zs[0] = y at *
          clear hcz hz1 hz2 hx0
          have HF := Lib.hid (show Least6 w L od false (.returned (.tuple #[.agg #[.int .i64 y, .int .i64 s], .bool true])) ((w3.setCell ⟨B, 0, none⟩ (.int .i64 y)).setCell ⟨B, 1, none⟩ (.int .i64 s)) from by
            have h0 : 0 ≤ y := (N.bnd _ HP.out.1).1
            obtain ⟨k, rfl⟩ : ∃ k : Nat, y = k := ⟨y.toNat, by omega⟩
            refine ⟨by rw [hBB]; exact (HB3.out.setCell (p := ⟨B, 0, none⟩) (Nat.le_refl _) _).setCell (p := ⟨B, 1, none⟩) (Nat.le_refl _) _, .inl ⟨k, s, ⟨HP.out.1, by show (od : Int) ≤ (s : Int); omega, HM.out, fun p hp e => by rw [if_neg (by decide)]; exact HP.out.2 p hp e⟩, rfl⟩⟩)
          have HX4 := Lib.hid (set_block HX3.out y s)
          clear HP HM HB3 HX3
          go_wp2_with (fail)
          exact ret_block (b := .bool true) rfl rfl rfl rfl HX4.out HF.out
      · have HM2 := Lib.hid (show ∀ p ∈ L, (od : Int) ≤ p.2 → ((s + 1 : Nat) : Int) ≤ p.2 from fun p hp h => by
          have h1 := HM.out p hp h
          have h2 : p.2 ≠ (s : Int) := fun e => hc ⟨p.1, by rw [← e]; exact hp⟩
          omega)
        have HC := Lib.hid hc
        clear HM hc
        go_wp2_with (first | (at_len; (refine wpList_len_fmap rfl _ _ rfl 3 76 Try.underlying45 EU (mb s) (frL L s) rfl hF ?_; intro l hl1 hl2; have hl3 := len_all (fun x hx => HC.out ⟨x, frL_some.1 ((hl2 x).1 hx)⟩))) | fail)
        go_roundw
        case rel => exact ⟨s + 1, by go_num, by omega, by omega, HM2, HN.out, HX.out, HB.out⟩
        case measure => simp [intOf]; omega
    · obtain rfl : s = 11 := by omega
      rw [show ((11 : Nat) : Int) = 11 from rfl]
      have b0 := HX.out.cell 0 (by decide)
      have b1 := HX.out.cell 1 (by decide)
      have f0 := HX.out.frozen 0
      have f1 := HX.out.frozen 1
      have e0 : blkV 0 0 0 = .int .i64 0 := rfl
      have e1 : blkV 0 0 1 = .int .i64 0 := rfl
      rw [e0] at b0
      rw [e1] at b1
      clear e0 e1
      have HF := Lib.hid (show Least6 w L od high (.returned (.tuple #[.agg #[.int .i64 0, .int .i64 0], .bool false])) ((wr.setCell ⟨B, 0, none⟩ (.int .i64 0)).setCell ⟨B, 1, none⟩ (.int .i64 0)) from
        ⟨by rw [hBB]; exact (HB.out.setCell (p := ⟨B, 0, none⟩) (Nat.le_refl _) _).setCell (p := ⟨B, 1, none⟩) (Nat.le_refl _) _, .inr ⟨fun p hp h => by
          have h1 := HM.out p hp h
          obtain ⟨a, o, rfl, h2⟩ := hL p hp
          have h3 : ((11 : Nat) : Int) ≤ (o : Int) := h1
          omega, rfl⟩⟩)
      have HX4 := Lib.hid (set_block HX.out 0 0)
      clear HX HB HM HN
      go_wp2_with (fail)
      exact ret_block (b := .bool false) rfl rfl rfl rfl HX4.out HF.out
end
end Go.Proofs.Ytilcdnkjfbkpnaa
