/-
  chain: the landed slab: New; all calls keep to what the laws want.
-/
import Derived.Test.YtlimbcpghfddkaaChAtT
namespace Go.Proofs.Ytlimbcpghfddkaa
open Go.RowKit Go

theorem Only.monoLt {S S' : Nat → Prop} {w w' : World} (h : Only S w w') (hs : ∀ k, k < w.heap.size → S k → S' k) : Only S' w w' :=
  ⟨h.os, h.tape, h.output, h.size, fun k hk hn => h.block k hk (fun x => hn (hs k hk x))⟩
/-- A new slab's cells as a value. -/
def cpA (bb bc : Nat) (sz co : Int) : Array Value := #[.slice (some ⟨bb, 0, none⟩) 256 bc, .int .i64 sz, .int .i64 co, .int .i64 255, .int .i64 0] ++ (Array.replicate 32 (.bool false) ++ Array.replicate 32 (.int .u64 0))
theorem cpA_at (bb bc sz co : Nat) (f : Nat → UInt8) (l : List Nat) : ∀ i, i < 69 → (cpA bb bc sz co)[i]? = some (cpV (sl0 sz co f l) bb bc 255 0 i) := by
  intro i hi
  unfold cpA
  by_cases h : i < 5
  · rw [Array.getElem?_append_left (by simpa using h)]
    rcases (show i = 0 ∨ i = 1 ∨ i = 2 ∨ i = 3 ∨ i = 4 by omega) with rfl | rfl | rfl | rfl | rfl <;> rfl
  · rw [Array.getElem?_append_right (by simp; omega)]
    by_cases h2 : i < 37
    · obtain ⟨j, rfl⟩ : ∃ j, i = 5 + j := ⟨i - 5, by omega⟩
      rw [cpV_out _ bb bc _ _ (by omega), Array.getElem?_append_left (by simp; omega), Array.getElem?_replicate]
      rw [if_pos (by simp; omega)]
      rfl
    · obtain ⟨j, rfl⟩ : ∃ j, i = 37 + j := ⟨i - 37, by omega⟩
      rw [cpV_tu, Array.getElem?_append_right (by simp; omega), Array.getElem?_replicate]
      rw [if_pos (by simp; omega)]
      rfl
/-- The bytes when the last k objects are linked. -/
def lkB (S : Sl) (n : Nat) (f : Nat → UInt8) : Nat → Nat → UInt8
  | 0 => f
  | k + 1 => updC (lkB S n f k) (S.pos (n - 1 - k)) (UInt8.ofNat (if k = 0 then 255 else n - k))
def lkF (n k : Nat) : Nat := if k = 0 then 255 else n - k
theorem lkB_out {S : Sl} {n : Nat} {f : Nat → UInt8} {p : Nat} : ∀ {k : Nat}, (∀ j, j < k → p ≠ S.pos (n - 1 - j)) → lkB S n f k p = f p
  | 0, _ => rfl
  | k + 1, h => by
    unfold lkB
    rw [updC_other _ (h k (by omega))]
    exact lkB_out (fun j hj => h j (by omega))
theorem lkB_at {S : Sl} {n : Nat} {f : Nat → UInt8} (hs : 1 ≤ S.sz) : ∀ {k j : Nat}, k ≤ n → j < k → lkB S n f k (S.pos (n - 1 - j)) = UInt8.ofNat (lkF n j)
  | 0, j, _, h => absurd h (Nat.not_lt_zero j)
  | k + 1, j, hk, h => by
    unfold lkB
    by_cases e : j = k
    · subst e
      rw [updC_same]
      rfl
    · rw [updC_other _ ?_]
      · exact lkB_at hs (by omega) (by omega)
      · intro e2
        rcases Nat.lt_or_gt_of_ne (show n - 1 - j ≠ n - 1 - k by omega) with hlt | hlt
        · have := pos_apart S hlt
          omega
        · have := pos_apart S hlt
          omega
/-- All linked, the bytes are as the document has them. -/
theorem lkB_all {sz co : Nat} (hm : mayC sz co = true) (f : Nat → UInt8) (l : List Nat) : lkB (sl0 sz co f l) ((256 - co) / sz) f ((256 - co) / sz) = (Sl.new sz co f).bt := by
  have h8 := (may_parts hm).1
  obtain ⟨n, hn⟩ : ∃ n, (256 - co) / sz = n := ⟨_, rfl⟩
  have I := SlI.new hm f
  unfold Sl.new
  dsimp only
  rw [hn]
  funext p
  have hpos : ∀ i, (sl0 sz co f l).pos i = (Sl.mk sz co (List.range n) (fun _ => false) (fun _ => 0) f).pos i := fun i => rfl
  by_cases h : ∃ j, j < n ∧ p = (sl0 sz co f l).pos j
  · obtain ⟨j, hj, rfl⟩ := h
    have e : n - 1 - (n - 1 - j) = j := by omega
    have h1 := lkB_at (S := sl0 sz co f l) (n := n) (f := f) (show 1 ≤ sz by omega) (k := n) (j := n - 1 - j) (Nat.le_refl _) (by omega)
    rw [e] at h1
    rw [h1]
    have h2 := wrK_at (S := Sl.mk sz co (List.range n) (fun _ => false) (fun _ => 0) f) (l := List.range n) (f := f) (fun a b ha hb hab => by
      rw [List.length_range] at ha hb
      rw [range_getD ha, range_getD hb]
      intro e
      rcases Nat.lt_or_gt_of_ne hab with hlt | hlt
      · have := pos_apart (Sl.mk sz co (List.range n) (fun _ => false) (fun _ => 0) f) hlt
        dsimp only at this
        omega
      · have := pos_apart (Sl.mk sz co (List.range n) (fun _ => false) (fun _ => 0) f) hlt
        dsimp only at this
        omega) (k := (List.range n).length) (j := j) (Nat.le_refl _) (by rw [List.length_range]; exact hj)
    rw [range_getD hj] at h2
    rw [hpos, h2]
    unfold nxt lkF
    congr 1
    by_cases hl : j + 1 < n
    · rw [range_getD hl, if_neg (by omega)]
      omega
    · rw [if_pos (by omega), List.getD_eq_getElem?_getD, List.getElem?_eq_none (by rw [List.length_range]; omega)]
      rfl
  · rw [lkB_out (fun j hj e => h ⟨n - 1 - j, by omega, e⟩), wrK_out (fun j hj e => h ⟨j, by rw [List.length_range] at hj; exact hj, by
      rw [List.length_range] at hj
      rw [range_getD hj] at e
      exact e⟩)]
theorem Nw_first (sz co : Nat) (hm : mayC sz co = true) (f : Nat → UInt8) : (Sl.new sz co f).ch.getD 0 255 = lkF ((256 - co) / sz) ((256 - co) / sz) := by
  obtain ⟨_, n1, _, _⟩ := cnt_le hm
  show (List.range ((256 - co) / sz)).getD 0 255 = _
  rw [range_getD (by omega)]
  unfold lkF
  rw [if_neg (by omega)]
  omega
set_option maxRecDepth 100000 in
set_option maxHeartbeats 4000000 in
theorem pnew_no (a : Option Addr) (n c : Nat) (size colour : Int) (w : World) (h : n ≠ 256 ∨ mayC size colour = false) :
    Calls Try.prog 37 #[.slice a n c, .int .i64 size, .int .i64 colour] w (STold w (.tuple #[.pointer none, .int .i64 2])) := by
  by_cases hn : n = 256
  · subst hn
    have hm : mayC size colour = false := h.resolve_left (fun h => h rfl)
    go_enter Try.func37, Try.ntmps37
    go_wp2_with (fail)
    refine (pmay_any size colour w).mono ?_
    rintro e w' ⟨rfl, rfl⟩
    rw [hm]
    go_wp2_with (fail)
    go_ret2
    exact ⟨rfl, Below.refl _ _⟩
  · have hnb : ((n : Int) == 256) = false := by simp; omega
    go_enter Try.func37, Try.ntmps37
    go_wp2_with (fail)
    go_ret2
    exact ⟨rfl, Below.refl _ _⟩
/-- The slab when the last k objects are linked. -/
def nwS (sz co n : Nat) (f : Nat → UInt8) (k : Nat) : Sl := { sl0 sz co f [] with bt := lkB (sl0 sz co f []) n f k }
theorem lkF_lt {n k : Nat} (h : n ≤ 32) : lkF n k < 256 := by
  unfold lkF
  split <;> omega
theorem nwS_all {w : World} {r bb bc sz co n : Nat} {f : Nat → UInt8} (hm : mayC sz co = true) (hn : (256 - co) / sz = n) (R : PAt w r bb bc (nwS sz co n f n) (lkF n n : Nat) (n : Nat)) : PAt w r bb bc (Sl.new sz co f) ((Sl.new sz co f).ch.getD 0 255 : Nat) ((Sl.new sz co f).ch.length : Nat) := by
  rw [Nw_first sz co hm f, show (Sl.new sz co f).ch.length = (256 - co) / sz from List.length_range, hn]
  have e := lkB_all hm f []
  rw [hn] at e
  refine ⟨R.row.ext (fun i _ => rfl), ?_, R.ne, R.may⟩
  rw [← e]
  exact R.byt
set_option maxRecDepth 100000 in
set_option maxHeartbeats 4000000 in
theorem pnew_any (sz co bb bc : Nat) (f : Nat → UInt8) (w : World) (hm : mayC sz co = true) (hcap : 256 ≤ bc) (hb : RowAt w bb 256 (byV f)) :
    Calls Try.prog 37 #[.slice (some ⟨bb, 0, none⟩) 256 bc, .int .i64 sz, .int .i64 co] w (SNew SlAt w bb bc (Sl.new sz co f)) := by
  obtain ⟨p1, p2, p3, p4, p5, p6⟩ := may_parts hm
  obtain ⟨n32, n1, _, _⟩ := cnt_le hm
  obtain ⟨n, hn⟩ : ∃ n, (256 - co) / sz = n := ⟨_, rfl⟩
  rw [hn] at n32 n1
  have HM := Lib.hid hm
  have HC := Lib.hid hcap
  have hbl := hb.lt
  have hba : Below w.heap.size w (w.alloc (.cells (cpA bb bc sz co) 81)) := (Below.refl _ _).alloc (Nat.le_refl _) _
  have HN0 := Lib.hid (show PAt (w.alloc (.cells (cpA bb bc sz co) 81)) w.heap.size bb bc (nwS sz co n f 0) (lkF n 0 : Nat) (0 : Nat) from
    ⟨RowAt.new w (cpA bb bc sz co) 81 69 _ (cpA_at bb bc sz co f []), hb.later hba, by omega, hm⟩)
  have HO0 := Lib.hid (show Only (fun k => k = bb) w (w.alloc (.cells (cpA bb bc sz co) 81)) from Only.of_below hba)
  have HNN := Lib.hid hn
  have HSN := Lib.hid (show ∀ k, (nwS sz co n f k).n = n from fun _ => hn)
  clear hba hb hm hn hcap
  go_enter Try.func37, Try.ntmps37
  go_wp2_with (fail)
  refine (pmay_any sz co w).mono ?_
  rintro e w' ⟨rfl, rfl⟩
  rw [HM.out]
  go_wp2_with (first | (refine wpList_buildC rfl rfl (.agg (cpA bb bc sz co)) (by kernel_rfl) ?_) | fail)
  generalize w.alloc (.cells (cpA bb bc sz co) 81) = w1 at *
  obtain ⟨r, hr⟩ : ∃ r, w.heap.size = r := ⟨_, rfl⟩
  have HRR := Lib.hid hr
  rw [hr] at HN0 hbl ⊢
  clear hr
  have HCN := pcount_any HN0.out
  rw [HSN.out] at HCN
  refine HCN.mono ?_
  rintro e w2 ⟨rfl, hb⟩
  have HN1 := Lib.hid (HN0.out.later hb)
  have HO1 := Lib.hid (HO0.out.trans (Only.of_below hb))
  clear hb HCN HN0 HO0
  have hw1 : wrap64 ((n : Int) - 1) = (n : Int) - 1 := IntWalk.wrap64_in _ ⟨by omega, by omega⟩
  go_wp2_with (fail)
  clear hw1
  go_loopw [9] (fun q wr => ∃ k : Nat, k ≤ n ∧ q = .int .i64 ((n : Int) - 1 - (k : Int)) ∧ Hid (PAt wr r bb bc (nwS sz co n f k) (lkF n k : Nat) (k : Nat)) ∧ Hid (Only (fun q => q = bb) w wr)) (fun q _ => (intOf q + 1).toNat)
  case atStart => exact ⟨0, Nat.zero_le _, by simp, HN1, HO1⟩
  case round =>
    clear HN1 HO1
    obtain ⟨k, hk, rfl, HN, HO⟩ := hrel
    by_cases hlt : k < n
    · obtain ⟨j, hj⟩ : ∃ j, n - 1 - k = j := ⟨_, rfl⟩
      have hjI : (n : Int) - 1 - (k : Int) = (j : Int) := by omega
      rw [hjI]
      have HJ := Lib.hid hj
      have HK := Lib.hid hlt
      have hjn : j < n := by omega
      have hk0 : (0 : Int) ≤ (k : Nat) ∧ ((k : Nat) : Int) ≤ 1000 := by omega
      have HJI := Lib.hid hjI
      have HL := plink_any HN.out (by rw [HSN.out]; exact hjn) (lkF_lt n32) hk0
      have HLH := Lib.hid HL
      have hw2 : wrap64 ((j : Int) - 1) = (j : Int) - 1 := IntWalk.wrap64_in _ ⟨by omega, by omega⟩
      clear HL hj hjI hk0
      go_wp2_with (fail)
      refine HLH.out.mono ?_
      rintro e w5 ⟨rfl, hR5, ho5⟩
      have HN5 := Lib.hid (show PAt w5 r bb bc (nwS sz co n f (k + 1)) (lkF n (k + 1) : Nat) ((k + 1 : Nat) : Int) by
        have e1 : lkF n (k + 1) = j := by unfold lkF; rw [if_neg (by omega)]; have := HJ.out; omega
        have e2 : ((k + 1 : Nat) : Int) = (k : Nat) + 1 := by omega
        rw [e1, e2]
        have h := hR5
        rw [← HJ.out] at h ⊢
        exact h)
      have HO5 := Lib.hid (((HO.out.mono (S' := fun q => q = r ∨ q = bb) (fun q hq => .inr hq)).trans ho5).monoLt (S' := fun q => q = bb) (fun q hq h => by
        rcases h with h | h
        · have := HRR.out
          omega
        · exact h))
      clear hR5 ho5 HN HO HLH
      go_wp2_with (fail)
      go_roundw
      case rel => exact ⟨k + 1, HK.out, by have := HJI.out; congr 1; omega, HN5, HO5⟩
      case measure => simp [intOf]
    · obtain rfl : k = n := by omega
      have HF := Lib.hid (show SNew SlAt w bb bc (Sl.new sz co f) (.returned (.tuple #[.pointer (some ⟨r, 0, none⟩), .int .i64 0])) wr from
        ⟨⟨r, bb, bc, fun q => q = r⟩, rfl, rfl, rfl, ⟨nwS_all HM.out HNN.out HN.out, SlI.new HM.out f, fun q => Iff.rfl, HC.out⟩, HO.out, fun q hq => by
          have := HRR.out
          have hq : q = r := hq
          omega⟩)
      go_wp2_with (fail)
      go_ret2
      exact HF.out
theorem chain_ok : ChainOk SlAt where
  later := fun A h => A.later h
  only := fun A h hk => A.only h hk
  wrote := fun {w W C S P f} A ho hk R I => ⟨⟨(A.at_.row.only ho (hk _ ((A.own _).2 rfl))).ext (fun _ _ => rfl), R, A.at_.ne, A.at_.may⟩, I, A.own, A.cap⟩
  byt := fun A => A.at_.byt
  inv := fun A => A.inv
  lt := fun A => A.lt
  nb := fun A h => A.at_.ne ((A.own _).1 h).symm
  newNo := pnew_no
  new := pnew_any
  take := ptake_any
  give := fun i A => pgive_any A i
  mark := fun i t A => pmark_any A i t
  clr := fun i A => pclr_any A i
  live := fun i A => plive_any A.at_ i
  place := fun i A => pat_any A.at_ i
  count := fun A => pcount_any A.at_
  size := fun {w C S} A => (psize_any A.at_).mono fun e w' ⟨h1, h2⟩ => ⟨h1, by rw [← h2]; exact Below.refl _ _⟩
  colour := fun {w C S} A => (pcolour_any A.at_).mono fun e w' ⟨h1, h2⟩ => ⟨h1, by rw [← h2]; exact Below.refl _ _⟩
  free := fun {w C S} A => (pfree_any A.at_).mono fun e w' ⟨h1, h2⟩ => ⟨h1, by rw [← h2]; exact Below.refl _ _⟩
  chain := fun A => pchain_any A
end Go.Proofs.Ytlimbcpghfddkaa
