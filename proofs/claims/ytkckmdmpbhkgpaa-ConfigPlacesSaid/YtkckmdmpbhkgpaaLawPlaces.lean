/-
  The walk of ConfigPlaces: it returns true, and below the old heap nothing has turned.
-/
import Derived.Test.YtkckmdmpbhkgpaaFrL
namespace Go.Proofs.Ytkckmdmpbhkgpaa
open Go.RowKit Go

set_option maxHeartbeats 2000000 in
set_option maxRecDepth 100000 in
theorem places_no (A : Array Value) (g : Nat → Int) (node f : Int) (w : World) (hA : Cfg A g) (hm : mayB g = false) :
    Calls Try.prog 4 #[.agg A, .int .i64 node, .int .i64 f] w fun e w' => e = .returned (.bool true) ∧ Below w.heap.size w w' := by
  have C0 := CfgAt.new w hA
  have hB : Below w.heap.size w (w.alloc (.cells A 26)) := (Below.refl _ _).alloc (Nat.le_refl _) _
  have ha : askI g node = 2 := by unfold askI; rw [hm]; rfl
  have HF := Lib.hid (show firstI g node = 0 by unfold firstI; rw [ha]; rfl)
  have HK := Lib.hid ha
  have HO := Lib.hid (fun W => order_no A g node W hA (by rw [ha]; decide))
  have HA := Lib.hid hA
  have HM := Lib.hid hm
  clear hA hm ha
  go_enter Try.func4, Try.ntmps4
  go_wp2_with (refine wpList_load_cfg rfl _ rfl _ rfl C0 ?_)
  refine (first_any A g node _ HA.out).mono ?_
  rintro e w1 ⟨rfl, hb⟩
  rw [HF.out, HK.out]
  have C1 := C0.later hb
  have hB1 := hB.trans (hb.mono hB.size)
  clear hb hB C0
  go_wp2_with (refine wpList_load_cfg rfl _ rfl _ rfl C1 ?_)
  refine (node_no A g f _ HA.out HM.out).mono ?_
  rintro e w2 ⟨rfl, hb⟩
  have C2 := C1.later hb
  have hB2 := hB1.trans (hb.mono hB1.size)
  clear hb hB1 C1
  go_wp2_with (refine wpList_load_cfg rfl _ rfl _ rfl C2 ?_)
  refine (HO.out _).mono ?_
  rintro e w3 ⟨rfl, hb⟩
  rw [HK.out]
  have C3 := C2.later hb
  have hB3 := hB2.trans (hb.mono hB2.size)
  clear hb hB2 C2
  go_wp2_with (refine wpList_load_cfg rfl _ rfl _ rfl C3 ?_)
  refine (refmay_any A g _ HA.out).mono ?_
  rintro e w4 ⟨rfl, hb⟩
  rw [HM.out]
  have hB4 := hB3.trans (hb.mono hB3.size)
  clear hb hB3 C3
  go_wp2_with (fail)
  refine (known_any w4).mono ?_
  rintro e w5 ⟨rfl, hb⟩
  have hB5 := hB4.trans (hb.mono hB4.size)
  clear hb hB4
  go_wp2_with (fail)
  go_ret
  exact ⟨rfl, hB5⟩
theorem OrderAt.later {W W' : World} {ob n : Nat} {l : List (Fin 8)} (O : OrderAt W ob n l) (hb : Below W.heap.size W W') : OrderAt W' ob n l :=
  ⟨O.1, fun j hj => by rw [hb.cell (p := ⟨ob, j, none⟩) (World.block_lt_of_cell? _ _ (O.2 j hj))]; exact O.2 j hj⟩

/-- The three ways in which a frame lies. -/
theorem frame_ways {g : Nat → Int} (G : Good g) {n : Nat} (hn : g 0 = n) (f : Int) :
    (f < 0 ∧ ∀ x y, NodeAns g n f x y → x = 0 ∧ y = 7) ∨ (0 ≤ f ∧ sumF g n ≤ f ∧ ∀ x y, NodeAns g n f x y → x = 0 ∧ y = 7) ∨
    ∃ i z : Nat, f = i ∧ (i : Int) < sumF g n ∧ (frL g n)[i]? = some (z : Int) ∧ ∀ x y, NodeAns g n f x y → x = z ∧ y = 0 := by
  have h0 : ∀ k, k ≤ n → 0 ≤ sumF g k := fun k hk => (sumF_bd g k (fun i hi => by have := G.frames i (by omega); omega)).1
  by_cases h1 : f < 0
  · refine .inl ⟨h1, fun x y h => ?_⟩
    rcases h with ⟨_, a, b⟩ | ⟨j, hj, a1, _⟩
    · exact ⟨a, b⟩
    · have := h0 j (by omega); omega
  · by_cases h2 : sumF g n ≤ f
    · refine .inr (.inl ⟨by omega, h2, fun x y h => ?_⟩)
      rcases h with ⟨_, a, b⟩ | ⟨j, hj, a1, a2, _⟩
      · exact ⟨a, b⟩
      · have := sumF_le G hn (show j + 1 ≤ n by omega) (Nat.le_refl _); omega
    · obtain ⟨i, rfl⟩ := Int.eq_ofNat_of_zero_le (show 0 ≤ f by omega)
      obtain ⟨z, z1, z2, z3⟩ := sumF_split g n i (by omega)
      exact .inr (.inr ⟨i, z, rfl, by omega, frL_at g n (fun i hi => by have := G.frames i (by omega); omega) z z1 i z2 z3, fun x y h => node_in G hn z1 z2 z3 h⟩)

set_option maxHeartbeats 8000000 in
set_option maxRecDepth 100000 in
theorem places_out (A : Array Value) (g : Nat → Int) (n : Nat) (node f : Int) (w : World) (hf : f ≤ 9223372036854775807) (hA : Cfg A g) (G : Good g) (hn : g 0 = n) (hk : node < 0 ∨ 0 ≤ node ∧ (n : Int) ≤ node) :
    Calls Try.prog 4 #[.agg A, .int .i64 node, .int .i64 f] w fun e w' => e = .returned (.bool true) ∧ Below w.heap.size w w' := by
  have C0 := CfgAt.new w hA
  have hB : Below w.heap.size w (w.alloc (.cells A 26)) := (Below.refl _ _).alloc (Nat.le_refl _) _
  have hm := (good_iff g).2 G
  have ha : askI g node = 7 := by
    unfold askI; rw [if_pos hm, if_neg]
    intro h; have := of_withinB h; omega
  have HF := Lib.hid (show firstI g node = 0 by unfold firstI; rw [ha]; rfl)
  have HK := Lib.hid ha
  have HO := Lib.hid (fun W => order_no A g node W hA (by rw [ha]; decide))
  have HA := Lib.hid hA
  have HM := Lib.hid hm
  have HG := Lib.hid G
  have HN := Lib.hid hn
  have HFM := Lib.hid hf
  clear hA hm ha G hn hf
  rcases frame_ways HG.out HN.out f with ⟨f1, hW⟩ | ⟨f1, f2, hW⟩ | ⟨i, z, rfl, f2, f3, hW⟩
  · have HW := Lib.hid hW
    clear hW
    rcases hk with k1 | ⟨k1, k2⟩
    all_goals
      try (have k3 : decide (node < 0) = false := by simp; omega)
      go_enter Try.func4, Try.ntmps4
      go_wp2_with (refine wpList_load_cfg rfl _ rfl _ rfl C0 ?_)
      refine (first_any A g _ _ HA.out).mono ?_
      rintro e w1 ⟨rfl, hb⟩
      rw [HF.out, HK.out]
      have C1 := C0.later hb
      have hB1 := hB.trans (hb.mono hB.size)
      clear hb hB C0
      go_wp2_with (refine wpList_load_cfg rfl _ rfl _ rfl C1 ?_)
      refine (node_any A g _ n _ HFM.out HA.out HN.out HM.out).mono ?_
      rintro e w2 ⟨x, y, rfl, ha, hb⟩
      obtain ⟨rfl, rfl⟩ := HW.out _ _ ha
      have C2 := C1.later hb
      have hB2 := hB1.trans (hb.mono hB1.size)
      clear ha hb hB1 C1
      go_wp2_with (refine wpList_load_cfg rfl _ rfl _ rfl C2 ?_)
      refine (HO.out _).mono ?_
      rintro e w3 ⟨rfl, hb⟩
      rw [HK.out]
      have C3 := C2.later hb
      have hB3 := hB2.trans (hb.mono hB2.size)
      clear hb hB2 C2
      go_wp2_with (refine wpList_load_cfg rfl _ rfl _ rfl C3 ?_)
      refine (refmay_any A g _ HA.out).mono ?_
      rintro e w4 ⟨rfl, hb⟩
      rw [HM.out]
      have C4 := C3.later hb
      have hB4 := hB3.trans (hb.mono hB3.size)
      clear hb hB3 C3
      go_wp2_with (refine wpList_load_cfg rfl _ rfl _ rfl C4 ?_)
      refine (refframes_at A g n _ HA.out HG.out HN.out).mono ?_
      rintro e w5 ⟨q, L, cap, rfl, hfr, hb⟩
      have C5 := C4.later hb
      have hB5 := hB4.trans (hb.mono hB4.size)
      clear hb hB4 C4
      have c0 := C5.cell 0 (by decide)
      rw [HN.out] at c0
      have HFR := Lib.hid hfr
      have hL := HFR.out.len
      clear hfr
      clear hL
      go_wp2_with (fail)
      refine (known_any w5).mono ?_
      rintro e w6 ⟨rfl, hb⟩
      have hB6 := hB5.trans (hb.mono hB5.size)
      clear hb hB5
      go_wp2_with (fail)
      go_ret
      exact ⟨rfl, hB6⟩
  · have HW := Lib.hid hW
    have F2 := Lib.hid f2
    clear hW f2
    rcases hk with k1 | ⟨k1, k2⟩
    all_goals
      try (have k3 : decide (node < 0) = false := by simp; omega)
      go_enter Try.func4, Try.ntmps4
      go_wp2_with (refine wpList_load_cfg rfl _ rfl _ rfl C0 ?_)
      refine (first_any A g _ _ HA.out).mono ?_
      rintro e w1 ⟨rfl, hb⟩
      rw [HF.out, HK.out]
      have C1 := C0.later hb
      have hB1 := hB.trans (hb.mono hB.size)
      clear hb hB C0
      go_wp2_with (refine wpList_load_cfg rfl _ rfl _ rfl C1 ?_)
      refine (node_any A g _ n _ HFM.out HA.out HN.out HM.out).mono ?_
      rintro e w2 ⟨x, y, rfl, ha, hb⟩
      obtain ⟨rfl, rfl⟩ := HW.out _ _ ha
      have C2 := C1.later hb
      have hB2 := hB1.trans (hb.mono hB1.size)
      clear ha hb hB1 C1
      go_wp2_with (refine wpList_load_cfg rfl _ rfl _ rfl C2 ?_)
      refine (HO.out _).mono ?_
      rintro e w3 ⟨rfl, hb⟩
      rw [HK.out]
      have C3 := C2.later hb
      have hB3 := hB2.trans (hb.mono hB2.size)
      clear hb hB2 C2
      go_wp2_with (refine wpList_load_cfg rfl _ rfl _ rfl C3 ?_)
      refine (refmay_any A g _ HA.out).mono ?_
      rintro e w4 ⟨rfl, hb⟩
      rw [HM.out]
      have C4 := C3.later hb
      have hB4 := hB3.trans (hb.mono hB3.size)
      clear hb hB3 C3
      go_wp2_with (refine wpList_load_cfg rfl _ rfl _ rfl C4 ?_)
      refine (refframes_at A g n _ HA.out HG.out HN.out).mono ?_
      rintro e w5 ⟨q, L, cap, rfl, hfr, hb⟩
      have C5 := C4.later hb
      have hB5 := hB4.trans (hb.mono hB4.size)
      clear hb hB4 C4
      have c0 := C5.cell 0 (by decide)
      rw [HN.out] at c0
      have HFR := Lib.hid hfr
      have hL := HFR.out.len
      clear hfr
      have d1 : decide (f < 0) = false := by simp; omega
      have d2 : (L : Int) ≤ f := by have := F2.out; omega
      clear hL
      go_wp2_with (fail)
      refine (known_any w5).mono ?_
      rintro e w6 ⟨rfl, hb⟩
      have hB6 := hB5.trans (hb.mono hB5.size)
      clear hb hB5
      go_wp2_with (fail)
      go_ret
      exact ⟨rfl, hB6⟩
  · have HW := Lib.hid hW
    have F3 := Lib.hid f3
    have F2 := Lib.hid f2
    clear hW f3 f2
    rcases hk with k1 | ⟨k1, k2⟩
    all_goals
      try (have k3 : decide (node < 0) = false := by simp; omega)
      go_enter Try.func4, Try.ntmps4
      go_wp2_with (refine wpList_load_cfg rfl _ rfl _ rfl C0 ?_)
      refine (first_any A g _ _ HA.out).mono ?_
      rintro e w1 ⟨rfl, hb⟩
      rw [HF.out, HK.out]
      have C1 := C0.later hb
      have hB1 := hB.trans (hb.mono hB.size)
      clear hb hB C0
      go_wp2_with (refine wpList_load_cfg rfl _ rfl _ rfl C1 ?_)
      refine (node_any A g _ n _ HFM.out HA.out HN.out HM.out).mono ?_
      rintro e w2 ⟨x, y, rfl, ha, hb⟩
      obtain ⟨rfl, rfl⟩ := HW.out _ _ ha
      have C2 := C1.later hb
      have hB2 := hB1.trans (hb.mono hB1.size)
      clear ha hb hB1 C1
      go_wp2_with (refine wpList_load_cfg rfl _ rfl _ rfl C2 ?_)
      refine (HO.out _).mono ?_
      rintro e w3 ⟨rfl, hb⟩
      rw [HK.out]
      have C3 := C2.later hb
      have hB3 := hB2.trans (hb.mono hB2.size)
      clear hb hB2 C2
      go_wp2_with (refine wpList_load_cfg rfl _ rfl _ rfl C3 ?_)
      refine (refmay_any A g _ HA.out).mono ?_
      rintro e w4 ⟨rfl, hb⟩
      rw [HM.out]
      have C4 := C3.later hb
      have hB4 := hB3.trans (hb.mono hB3.size)
      clear hb hB3 C3
      go_wp2_with (refine wpList_load_cfg rfl _ rfl _ rfl C4 ?_)
      refine (refframes_at A g n _ HA.out HG.out HN.out).mono ?_
      rintro e w5 ⟨q, L, cap, rfl, hfr, hb⟩
      have C5 := C4.later hb
      have hB5 := hB4.trans (hb.mono hB4.size)
      clear hb hB4 C4
      have c0 := C5.cell 0 (by decide)
      rw [HN.out] at c0
      have HFR := Lib.hid hfr
      have hL := HFR.out.len
      clear hfr
      have hiL : i < L := by have := F2.out; omega
      have d1 : decide ((i : Int) < 0) = false := by simp
      have d2 : decide (L ≤ i) = false := by simp; omega
      have ci := HFR.out.cell i hiL
      rw [F3.out] at ci
      simp only [Option.getD_some] at ci
      clear hL
      go_wp2_with (fail)
      refine (known_any w5).mono ?_
      rintro e w6 ⟨rfl, hb⟩
      have hB6 := hB5.trans (hb.mono hB5.size)
      clear hb hB5
      go_wp2_with (fail)
      go_ret
      exact ⟨rfl, hB6⟩

set_option maxHeartbeats 8000000 in
set_option maxRecDepth 100000 in
theorem places_in (A : Array Value) (g : Nat → Int) (n k : Nat) (f : Int) (w : World) (hf : f ≤ 9223372036854775807) (hA : Cfg A g) (G : Good g) (hn : g 0 = n) (hk : k < n) :
    Calls Try.prog 4 #[.agg A, .int .i64 k, .int .i64 f] w fun e w' => e = .returned (.bool true) ∧ Below w.heap.size w w' := by
  have C0 := CfgAt.new w hA
  have hB : Below w.heap.size w (w.alloc (.cells A 26)) := (Below.refl _ _).alloc (Nat.le_refl _) _
  have hm := (good_iff g).2 G
  have hn8 : n ≤ 8 := by have := G.n2; omega
  have ha : askI g k = 0 := ask_zero.2 ⟨G, by omega, by omega⟩
  obtain ⟨s, hs⟩ := Int.eq_ofNat_of_zero_le (sumF_bd g k (fun i hi => by have := G.frames i (by omega); omega)).1
  have hsn := sumF_le G hn (Nat.le_of_lt hk) (Nat.le_refl n)
  have hs8 := (sumF_bd g n (fun i hi => by have := G.frames i (by omega); omega)).2
  have HF := Lib.hid (show firstI g k = s by unfold firstI; rw [if_pos ha]; exact hs)
  have HSN := Lib.hid (show (s : Int) ≤ sumF g n ∧ sumF g n ≤ 1024 by omega)
  have HBL := Lib.hid (show ∀ j : Nat, (j : Int) < sumF g n → ∃ z : Nat, (frL g n)[j]? = some (z : Int) ∧ (j < s ↔ z < k) from fun j hj => by
    obtain ⟨z, h1, h2⟩ := frL_below G hn hk j hj
    exact ⟨z, h1, by rw [hs] at h2; omega⟩)
  have HK := Lib.hid ha
  have HA := Lib.hid hA
  have HM := Lib.hid hm
  have HG := Lib.hid G
  have HN := Lib.hid hn
  have HFM := Lib.hid hf
  clear hA hm ha G hn hf hs hsn hs8
  have k3 : decide (n ≤ k) = false := by simp; omega
  rcases frame_ways HG.out HN.out f with ⟨f1, hW⟩ | ⟨f1, f2, hW⟩ | ⟨i, z, rfl, f2, f3, hW⟩
  · have HW := Lib.hid hW
    clear hW
    go_enter Try.func4, Try.ntmps4
    go_wp2_with (refine wpList_load_cfg rfl _ rfl _ rfl C0 ?_)
    refine (first_any A g _ _ HA.out).mono ?_
    rintro e w1 ⟨rfl, hb⟩
    rw [HF.out, HK.out]
    have C1 := C0.later hb
    have hB1 := hB.trans (hb.mono hB.size)
    clear hb hB C0
    go_wp2_with (refine wpList_load_cfg rfl _ rfl _ rfl C1 ?_)
    refine (node_any A g _ n _ HFM.out HA.out HN.out HM.out).mono ?_
    rintro e w2 ⟨x, y, rfl, ha, hb⟩
    obtain ⟨rfl, rfl⟩ := HW.out _ _ ha
    have C2 := C1.later hb
    have hB2 := hB1.trans (hb.mono hB1.size)
    clear ha hb hB1 C1
    go_wp2_with (refine wpList_load_cfg rfl _ rfl _ rfl C2 ?_)
    refine (order_yes A g k n _ HA.out HG.out HN.out hk).mono ?_
    rintro e w3 ⟨ob, rfl, _, ho, hb⟩
    have HO3 := Lib.hid ho
    clear ho
    have C3 := C2.later hb
    have hB3 := hB2.trans (hb.mono hB2.size)
    clear hb hB2 C2
    go_wp2_with (refine wpList_load_cfg rfl _ rfl _ rfl C3 ?_)
    refine (refmay_any A g _ HA.out).mono ?_
    rintro e w4 ⟨rfl, hb⟩
    rw [HM.out]
    have C4 := C3.later hb
    have hB4 := hB3.trans (hb.mono hB3.size)
    have HO4 := Lib.hid (HO3.out.later hb)
    clear hb hB3 C3 HO3
    go_wp2_with (refine wpList_load_cfg rfl _ rfl _ rfl C4 ?_)
    refine (refframes_at A g n _ HA.out HG.out HN.out).mono ?_
    rintro e w5 ⟨q, L, cap, rfl, hfr, hb⟩
    have C5 := C4.later hb
    have hB5 := hB4.trans (hb.mono hB4.size)
    have HO5 := Lib.hid (HO4.out.later hb)
    clear HO4
    clear hb hB4 C4
    have c0 := C5.cell 0 (by decide)
    rw [HN.out] at c0
    have HFR := Lib.hid hfr
    have hL := HFR.out.len
    clear hfr
    clear hL
    have hcap : s ≤ L ∧ L ≤ 1024 := by have := HSN.out; have := HFR.out.len; omega
    go_wp2_with (fail)
    clear c0
    go_loop [14] (fun x => ∃ j : Nat, j ≤ s ∧ x = .int .i64 j) (fun x => s - (intOf x).toNat)
    case atStart => exact ⟨0, Nat.zero_le _, rfl⟩
    case round =>
      obtain ⟨j, hj, rfl⟩ := hrel
      by_cases hlt : j < s
      · obtain ⟨y, y1, y2⟩ := HBL.out j (by have := HSN.out; omega)
        have hy : y < k := y2.1 hlt
        have hjL : j < L := by omega
        have cj := HFR.out.cell j hjL
        rw [y1] at cj
        simp only [Option.getD_some] at cj
        clear y1 y2
        go_wp2_with (fail)
        go_round
        case rel => exact ⟨j + 1, hlt, by go_num⟩
        case measure => simp [intOf]; omega
      · obtain rfl : j = s := by omega
        by_cases hjL : j < L
        · obtain ⟨y, y1, y2⟩ := HBL.out j (by have := HFR.out.len; omega)
          have hy : decide (y < k) = false := by simp; omega
          have cj := HFR.out.cell j hjL
          rw [y1] at cj
          simp only [Option.getD_some] at cj
          clear y1 y2
          go_wp2_with (refine wpList_load_cfg rfl _ rfl _ rfl C5 ?_)
          refine (reforder_at A g k n _ HA.out HG.out HN.out hk).mono ?_
          rintro e w6 ⟨q2, c2, rfl, ho2, hb⟩
          have hB6 := hB5.trans (hb.mono hB5.size)
          have HO6 := Lib.hid (HO5.out.later hb)
          have HO2 := Lib.hid ho2
          clear hb ho2
          go_wp2_with (fail)
          go_loopw [16, 140] (fun _ x wr => ∃ i : Nat, i ≤ n ∧ x = .int .i64 i ∧ ∃ m, wr = w6.drewN m) (fun _ x _ => n - (intOf x).toNat)
          case atStart => exact ⟨0, Nat.zero_le _, rfl, 0, rfl⟩
          case round =>
            obtain ⟨t, ht, rfl, m, rfl⟩ := hrel
            by_cases hlt2 : t < n
            · have e1 := HO6.out.2 t hlt2
              have e2 := HO2.out.2 t hlt2
              unfold encN at e1 e2
              generalize ((ordL g k n)[t]!).val = v at e1 e2
              have d9 : ((v : Int) != (v : Int)) = false := by simp
              go_wp2_with (fail)
              go_quiet (fail)
              go_wp2_with (fail)
              go_roundw
              case rel => exact ⟨t + 1, hlt2, by go_num, _, rfl⟩
              case measure => simp [intOf]; omega
            · go_wp2_with (fail)
              refine (known_any _).mono ?_
              rintro e w7 ⟨rfl, hb⟩
              have hB7 := (below_drewN hB6 m).trans (hb.mono (below_drewN hB6 m).size)
              clear hb
              go_wp2_with (fail)
              go_ret
              exact ⟨rfl, hB7⟩
        · have hjL2 : decide (j < L) = false := by simp; omega
          go_wp2_with (refine wpList_load_cfg rfl _ rfl _ rfl C5 ?_)
          refine (reforder_at A g k n _ HA.out HG.out HN.out hk).mono ?_
          rintro e w6 ⟨q2, c2, rfl, ho2, hb⟩
          have hB6 := hB5.trans (hb.mono hB5.size)
          have HO6 := Lib.hid (HO5.out.later hb)
          have HO2 := Lib.hid ho2
          clear hb ho2
          go_wp2_with (fail)
          go_loopw [16, 140] (fun _ x wr => ∃ i : Nat, i ≤ n ∧ x = .int .i64 i ∧ ∃ m, wr = w6.drewN m) (fun _ x _ => n - (intOf x).toNat)
          case atStart => exact ⟨0, Nat.zero_le _, rfl, 0, rfl⟩
          case round =>
            obtain ⟨t, ht, rfl, m, rfl⟩ := hrel
            by_cases hlt2 : t < n
            · have e1 := HO6.out.2 t hlt2
              have e2 := HO2.out.2 t hlt2
              unfold encN at e1 e2
              generalize ((ordL g k n)[t]!).val = v at e1 e2
              have d9 : ((v : Int) != (v : Int)) = false := by simp
              go_wp2_with (fail)
              go_quiet (fail)
              go_wp2_with (fail)
              go_roundw
              case rel => exact ⟨t + 1, hlt2, by go_num, _, rfl⟩
              case measure => simp [intOf]; omega
            · go_wp2_with (fail)
              refine (known_any _).mono ?_
              rintro e w7 ⟨rfl, hb⟩
              have hB7 := (below_drewN hB6 m).trans (hb.mono (below_drewN hB6 m).size)
              clear hb
              go_wp2_with (fail)
              go_ret
              exact ⟨rfl, hB7⟩
  · have HW := Lib.hid hW
    have F2 := Lib.hid f2
    clear hW f2
    go_enter Try.func4, Try.ntmps4
    go_wp2_with (refine wpList_load_cfg rfl _ rfl _ rfl C0 ?_)
    refine (first_any A g _ _ HA.out).mono ?_
    rintro e w1 ⟨rfl, hb⟩
    rw [HF.out, HK.out]
    have C1 := C0.later hb
    have hB1 := hB.trans (hb.mono hB.size)
    clear hb hB C0
    go_wp2_with (refine wpList_load_cfg rfl _ rfl _ rfl C1 ?_)
    refine (node_any A g _ n _ HFM.out HA.out HN.out HM.out).mono ?_
    rintro e w2 ⟨x, y, rfl, ha, hb⟩
    obtain ⟨rfl, rfl⟩ := HW.out _ _ ha
    have C2 := C1.later hb
    have hB2 := hB1.trans (hb.mono hB1.size)
    clear ha hb hB1 C1
    go_wp2_with (refine wpList_load_cfg rfl _ rfl _ rfl C2 ?_)
    refine (order_yes A g k n _ HA.out HG.out HN.out hk).mono ?_
    rintro e w3 ⟨ob, rfl, _, ho, hb⟩
    have HO3 := Lib.hid ho
    clear ho
    have C3 := C2.later hb
    have hB3 := hB2.trans (hb.mono hB2.size)
    clear hb hB2 C2
    go_wp2_with (refine wpList_load_cfg rfl _ rfl _ rfl C3 ?_)
    refine (refmay_any A g _ HA.out).mono ?_
    rintro e w4 ⟨rfl, hb⟩
    rw [HM.out]
    have C4 := C3.later hb
    have hB4 := hB3.trans (hb.mono hB3.size)
    have HO4 := Lib.hid (HO3.out.later hb)
    clear hb hB3 C3 HO3
    go_wp2_with (refine wpList_load_cfg rfl _ rfl _ rfl C4 ?_)
    refine (refframes_at A g n _ HA.out HG.out HN.out).mono ?_
    rintro e w5 ⟨q, L, cap, rfl, hfr, hb⟩
    have C5 := C4.later hb
    have hB5 := hB4.trans (hb.mono hB4.size)
    have HO5 := Lib.hid (HO4.out.later hb)
    clear HO4
    clear hb hB4 C4
    have c0 := C5.cell 0 (by decide)
    rw [HN.out] at c0
    have HFR := Lib.hid hfr
    have hL := HFR.out.len
    clear hfr
    have d1 : decide (f < 0) = false := by simp; omega
    have d2 : (L : Int) ≤ f := by have := F2.out; omega
    clear hL
    have hcap : s ≤ L ∧ L ≤ 1024 := by have := HSN.out; have := HFR.out.len; omega
    go_wp2_with (fail)
    clear c0
    go_loop [14] (fun x => ∃ j : Nat, j ≤ s ∧ x = .int .i64 j) (fun x => s - (intOf x).toNat)
    case atStart => exact ⟨0, Nat.zero_le _, rfl⟩
    case round =>
      obtain ⟨j, hj, rfl⟩ := hrel
      by_cases hlt : j < s
      · obtain ⟨y, y1, y2⟩ := HBL.out j (by have := HSN.out; omega)
        have hy : y < k := y2.1 hlt
        have hjL : j < L := by omega
        have cj := HFR.out.cell j hjL
        rw [y1] at cj
        simp only [Option.getD_some] at cj
        clear y1 y2
        go_wp2_with (fail)
        go_round
        case rel => exact ⟨j + 1, hlt, by go_num⟩
        case measure => simp [intOf]; omega
      · obtain rfl : j = s := by omega
        by_cases hjL : j < L
        · obtain ⟨y, y1, y2⟩ := HBL.out j (by have := HFR.out.len; omega)
          have hy : decide (y < k) = false := by simp; omega
          have cj := HFR.out.cell j hjL
          rw [y1] at cj
          simp only [Option.getD_some] at cj
          clear y1 y2
          go_wp2_with (refine wpList_load_cfg rfl _ rfl _ rfl C5 ?_)
          refine (reforder_at A g k n _ HA.out HG.out HN.out hk).mono ?_
          rintro e w6 ⟨q2, c2, rfl, ho2, hb⟩
          have hB6 := hB5.trans (hb.mono hB5.size)
          have HO6 := Lib.hid (HO5.out.later hb)
          have HO2 := Lib.hid ho2
          clear hb ho2
          go_wp2_with (fail)
          go_loopw [16, 140] (fun _ x wr => ∃ i : Nat, i ≤ n ∧ x = .int .i64 i ∧ ∃ m, wr = w6.drewN m) (fun _ x _ => n - (intOf x).toNat)
          case atStart => exact ⟨0, Nat.zero_le _, rfl, 0, rfl⟩
          case round =>
            obtain ⟨t, ht, rfl, m, rfl⟩ := hrel
            by_cases hlt2 : t < n
            · have e1 := HO6.out.2 t hlt2
              have e2 := HO2.out.2 t hlt2
              unfold encN at e1 e2
              generalize ((ordL g k n)[t]!).val = v at e1 e2
              have d9 : ((v : Int) != (v : Int)) = false := by simp
              go_wp2_with (fail)
              go_quiet (fail)
              go_wp2_with (fail)
              go_roundw
              case rel => exact ⟨t + 1, hlt2, by go_num, _, rfl⟩
              case measure => simp [intOf]; omega
            · go_wp2_with (fail)
              refine (known_any _).mono ?_
              rintro e w7 ⟨rfl, hb⟩
              have hB7 := (below_drewN hB6 m).trans (hb.mono (below_drewN hB6 m).size)
              clear hb
              go_wp2_with (fail)
              go_ret
              exact ⟨rfl, hB7⟩
        · have hjL2 : decide (j < L) = false := by simp; omega
          go_wp2_with (refine wpList_load_cfg rfl _ rfl _ rfl C5 ?_)
          refine (reforder_at A g k n _ HA.out HG.out HN.out hk).mono ?_
          rintro e w6 ⟨q2, c2, rfl, ho2, hb⟩
          have hB6 := hB5.trans (hb.mono hB5.size)
          have HO6 := Lib.hid (HO5.out.later hb)
          have HO2 := Lib.hid ho2
          clear hb ho2
          go_wp2_with (fail)
          go_loopw [16, 140] (fun _ x wr => ∃ i : Nat, i ≤ n ∧ x = .int .i64 i ∧ ∃ m, wr = w6.drewN m) (fun _ x _ => n - (intOf x).toNat)
          case atStart => exact ⟨0, Nat.zero_le _, rfl, 0, rfl⟩
          case round =>
            obtain ⟨t, ht, rfl, m, rfl⟩ := hrel
            by_cases hlt2 : t < n
            · have e1 := HO6.out.2 t hlt2
              have e2 := HO2.out.2 t hlt2
              unfold encN at e1 e2
              generalize ((ordL g k n)[t]!).val = v at e1 e2
              have d9 : ((v : Int) != (v : Int)) = false := by simp
              go_wp2_with (fail)
              go_quiet (fail)
              go_wp2_with (fail)
              go_roundw
              case rel => exact ⟨t + 1, hlt2, by go_num, _, rfl⟩
              case measure => simp [intOf]; omega
            · go_wp2_with (fail)
              refine (known_any _).mono ?_
              rintro e w7 ⟨rfl, hb⟩
              have hB7 := (below_drewN hB6 m).trans (hb.mono (below_drewN hB6 m).size)
              clear hb
              go_wp2_with (fail)
              go_ret
              exact ⟨rfl, hB7⟩
  · have HW := Lib.hid hW
    have F3 := Lib.hid f3
    have F2 := Lib.hid f2
    clear hW f3 f2
    go_enter Try.func4, Try.ntmps4
    go_wp2_with (refine wpList_load_cfg rfl _ rfl _ rfl C0 ?_)
    refine (first_any A g _ _ HA.out).mono ?_
    rintro e w1 ⟨rfl, hb⟩
    rw [HF.out, HK.out]
    have C1 := C0.later hb
    have hB1 := hB.trans (hb.mono hB.size)
    clear hb hB C0
    go_wp2_with (refine wpList_load_cfg rfl _ rfl _ rfl C1 ?_)
    refine (node_any A g _ n _ HFM.out HA.out HN.out HM.out).mono ?_
    rintro e w2 ⟨x, y, rfl, ha, hb⟩
    obtain ⟨rfl, rfl⟩ := HW.out _ _ ha
    have C2 := C1.later hb
    have hB2 := hB1.trans (hb.mono hB1.size)
    clear ha hb hB1 C1
    go_wp2_with (refine wpList_load_cfg rfl _ rfl _ rfl C2 ?_)
    refine (order_yes A g k n _ HA.out HG.out HN.out hk).mono ?_
    rintro e w3 ⟨ob, rfl, _, ho, hb⟩
    have HO3 := Lib.hid ho
    clear ho
    have C3 := C2.later hb
    have hB3 := hB2.trans (hb.mono hB2.size)
    clear hb hB2 C2
    go_wp2_with (refine wpList_load_cfg rfl _ rfl _ rfl C3 ?_)
    refine (refmay_any A g _ HA.out).mono ?_
    rintro e w4 ⟨rfl, hb⟩
    rw [HM.out]
    have C4 := C3.later hb
    have hB4 := hB3.trans (hb.mono hB3.size)
    have HO4 := Lib.hid (HO3.out.later hb)
    clear hb hB3 C3 HO3
    go_wp2_with (refine wpList_load_cfg rfl _ rfl _ rfl C4 ?_)
    refine (refframes_at A g n _ HA.out HG.out HN.out).mono ?_
    rintro e w5 ⟨q, L, cap, rfl, hfr, hb⟩
    have C5 := C4.later hb
    have hB5 := hB4.trans (hb.mono hB4.size)
    have HO5 := Lib.hid (HO4.out.later hb)
    clear HO4
    clear hb hB4 C4
    have c0 := C5.cell 0 (by decide)
    rw [HN.out] at c0
    have HFR := Lib.hid hfr
    have hL := HFR.out.len
    clear hfr
    have hiL : i < L := by have := F2.out; omega
    have d1 : decide ((i : Int) < 0) = false := by simp
    have d2 : decide (L ≤ i) = false := by simp; omega
    have ci := HFR.out.cell i hiL
    rw [F3.out] at ci
    simp only [Option.getD_some] at ci
    clear hL
    have hcap : s ≤ L ∧ L ≤ 1024 := by have := HSN.out; have := HFR.out.len; omega
    go_wp2_with (fail)
    clear c0
    go_loop [14] (fun x => ∃ j : Nat, j ≤ s ∧ x = .int .i64 j) (fun x => s - (intOf x).toNat)
    case atStart => exact ⟨0, Nat.zero_le _, rfl⟩
    case round =>
      obtain ⟨j, hj, rfl⟩ := hrel
      by_cases hlt : j < s
      · obtain ⟨y, y1, y2⟩ := HBL.out j (by have := HSN.out; omega)
        have hy : y < k := y2.1 hlt
        have hjL : j < L := by omega
        have cj := HFR.out.cell j hjL
        rw [y1] at cj
        simp only [Option.getD_some] at cj
        clear y1 y2
        go_wp2_with (fail)
        go_round
        case rel => exact ⟨j + 1, hlt, by go_num⟩
        case measure => simp [intOf]; omega
      · obtain rfl : j = s := by omega
        by_cases hjL : j < L
        · obtain ⟨y, y1, y2⟩ := HBL.out j (by have := HFR.out.len; omega)
          have hy : decide (y < k) = false := by simp; omega
          have cj := HFR.out.cell j hjL
          rw [y1] at cj
          simp only [Option.getD_some] at cj
          clear y1 y2
          go_wp2_with (refine wpList_load_cfg rfl _ rfl _ rfl C5 ?_)
          refine (reforder_at A g k n _ HA.out HG.out HN.out hk).mono ?_
          rintro e w6 ⟨q2, c2, rfl, ho2, hb⟩
          have hB6 := hB5.trans (hb.mono hB5.size)
          have HO6 := Lib.hid (HO5.out.later hb)
          have HO2 := Lib.hid ho2
          clear hb ho2
          go_wp2_with (fail)
          go_loopw [16, 140] (fun _ x wr => ∃ i : Nat, i ≤ n ∧ x = .int .i64 i ∧ ∃ m, wr = w6.drewN m) (fun _ x _ => n - (intOf x).toNat)
          case atStart => exact ⟨0, Nat.zero_le _, rfl, 0, rfl⟩
          case round =>
            obtain ⟨t, ht, rfl, m, rfl⟩ := hrel
            by_cases hlt2 : t < n
            · have e1 := HO6.out.2 t hlt2
              have e2 := HO2.out.2 t hlt2
              unfold encN at e1 e2
              generalize ((ordL g k n)[t]!).val = v at e1 e2
              have d9 : ((v : Int) != (v : Int)) = false := by simp
              go_wp2_with (fail)
              go_quiet (fail)
              go_wp2_with (fail)
              go_roundw
              case rel => exact ⟨t + 1, hlt2, by go_num, _, rfl⟩
              case measure => simp [intOf]; omega
            · go_wp2_with (fail)
              refine (known_any _).mono ?_
              rintro e w7 ⟨rfl, hb⟩
              have hB7 := (below_drewN hB6 m).trans (hb.mono (below_drewN hB6 m).size)
              clear hb
              go_wp2_with (fail)
              go_ret
              exact ⟨rfl, hB7⟩
        · have hjL2 : decide (j < L) = false := by simp; omega
          go_wp2_with (refine wpList_load_cfg rfl _ rfl _ rfl C5 ?_)
          refine (reforder_at A g k n _ HA.out HG.out HN.out hk).mono ?_
          rintro e w6 ⟨q2, c2, rfl, ho2, hb⟩
          have hB6 := hB5.trans (hb.mono hB5.size)
          have HO6 := Lib.hid (HO5.out.later hb)
          have HO2 := Lib.hid ho2
          clear hb ho2
          go_wp2_with (fail)
          go_loopw [16, 140] (fun _ x wr => ∃ i : Nat, i ≤ n ∧ x = .int .i64 i ∧ ∃ m, wr = w6.drewN m) (fun _ x _ => n - (intOf x).toNat)
          case atStart => exact ⟨0, Nat.zero_le _, rfl, 0, rfl⟩
          case round =>
            obtain ⟨t, ht, rfl, m, rfl⟩ := hrel
            by_cases hlt2 : t < n
            · have e1 := HO6.out.2 t hlt2
              have e2 := HO2.out.2 t hlt2
              unfold encN at e1 e2
              generalize ((ordL g k n)[t]!).val = v at e1 e2
              have d9 : ((v : Int) != (v : Int)) = false := by simp
              go_wp2_with (fail)
              go_quiet (fail)
              go_wp2_with (fail)
              go_roundw
              case rel => exact ⟨t + 1, hlt2, by go_num, _, rfl⟩
              case measure => simp [intOf]; omega
            · go_wp2_with (fail)
              refine (known_any _).mono ?_
              rintro e w7 ⟨rfl, hb⟩
              have hB7 := (below_drewN hB6 m).trans (hb.mono (below_drewN hB6 m).size)
              clear hb
              go_wp2_with (fail)
              go_ret
              exact ⟨rfl, hB7⟩

theorem lawPlaces_any (A : Array Value) (g : Nat → Int) (node f : Int) (w : World) (hf : f ≤ 9223372036854775807) (hA : Cfg A g) :
    Calls Try.prog 4 #[.agg A, .int .i64 node, .int .i64 f] w fun e w' => e = .returned (.bool true) ∧ Below w.heap.size w w' := by
  cases hm : mayB g with
  | false => exact places_no A g node f w hA hm
  | true =>
    have G := (good_iff g).1 hm
    obtain ⟨n, hn⟩ := Int.eq_ofNat_of_zero_le (show 0 ≤ g 0 by have := G.n1; omega)
    by_cases h : 0 ≤ node ∧ node < n
    · obtain ⟨k, rfl⟩ := Int.eq_ofNat_of_zero_le h.1
      exact places_in A g n k f w hf hA G hn (by omega)
    · exact places_out A g n node f w hf hA G hn (by omega)
end Go.Proofs.Ytkckmdmpbhkgpaa
