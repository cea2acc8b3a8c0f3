/-
  string(b); the frames' known case.
-/
import Derived.Test.YtecklmiiiklagaaFrNew
import Derived.Test.YtecklmiiiklagaaFrCount
import Derived.Test.YtecklmiiiklagaaFrLeast
import Derived.Laws.BytesString
namespace Go.Proofs.Ytecklmiiiklagaa
open Go.RowKit Go

/-- The string of n bytes. -/
def strB (n : Nat) (f : Nat → UInt8) : ByteArray := ((List.range n).map fun i => ((f i).toNat : Int)).foldl (fun r n => r.push (UInt8.ofNat n.toNat)) ByteArray.empty
theorem run_string {w : World} {b n c : Nat} {f : Nat → UInt8} (R : RowAt w b n (byV f)) : (convert 22 9 (.slice (some ⟨b, 0, none⟩) n c)).run Try.prog w = .ok (.string (strB n f)) w := by
  rw [run_convert_bytes_string w 22 9 5 _ n c Try.underlying22 Try.underlying5 Try.underlying9]
  refine run_bytesToString w ⟨b, 0, none⟩ n c ((List.range n).map fun i => ((f i).toNat : Int)) ?_
  have h := run_loadCells_list (P := Try.prog) w ⟨b, 0, none⟩ ((List.range n).map fun i => byV f i) (fun j v hv => by
    have hj : j < n := by have := (List.getElem?_eq_some_iff.1 hv).1; simpa using this
    rw [List.getElem?_map, List.getElem?_range hj] at hv
    rw [Addr.add_mid, Nat.zero_add, R.cell j hj]; exact hv)
  rw [List.length_map, List.length_range] at h
  rw [h, List.map_map]; rfl

theorem known_bytes : strB 3 (fun i => putB (fun _ => 0) (0 * 256 + 254) 2 (fun i => if i = 0 then 1 else 2) (0 * 256 + 253 + i)) = ⟨#[0, 1, 2]⟩ := by decide +kernel
theorem known_count : cntK (fun _ => ⟨1, 0, 0, 0, 0⟩) 0 1 4 = 4 := by decide

theorem two_new (w : World) : ∀ j, j < 2 → (w.alloc (.cells #[Value.int .u8 1, .int .u8 2] 5)).cell? ((⟨w.heap.size, 0, none⟩ : Addr).add j) = some (byV (fun i => if i = 0 then 1 else 2) j) := by
  intro j hj
  rw [Addr.add_mid, Nat.zero_add]
  rcases (show j = 0 ∨ j = 1 by omega) with rfl | rfl <;> simp [go_sem] <;> rfl

set_option maxRecDepth 100000 in
set_option maxHeartbeats 1000000 in
theorem known_any (w : World) :
    Calls Try.prog 8 #[] w fun e w' => e = .returned (.bool true) ∧ Below w.heap.size w w' := by
  go_enter Try.func8, Try.ntmps8
  go_wp2_with (fail)
  refine (four_any w).mono ?_
  rintro e w1 ⟨A', rfl, hA, hb1⟩
  have HA := Lib.hid hA
  have HB1 := Lib.hid hb1
  clear hA hb1
  go_wp2_with (fail)
  refine (fnew_ok A' fourG 4 w1 HA.out four_good four_total (by decide)).mono ?_
  rintro e w2 ⟨M, rfl, H, hn, hT, m1, m2, m3, m4, hb2⟩
  have hT4 : M.T = 4 := by rw [four_total] at hT; omega
  have hn1 : M.n = 1 := by have : fourG 0 = 1 := rfl; omega
  have HB2 := Lib.hid (HB1.out.trans (hb2.mono HB1.out.size))
  have H2 := Lib.hid H
  have hs1 := HB1.out.size
  clear hn hT hb2 H
  have H3 := H2.out.later ((Below.refl _ w2).alloc (Nat.le_refl _) (.cells #[Value.int .u8 1, .int .u8 2, .int .u8 3] 5))
  have W1 := Lib.hid (write_err (some ⟨M.m, 0, none⟩) 0 254 2 (some ⟨w2.heap.size, 0, none⟩) 3 3 _ (by decide) (part_bad H3 0 254 3 (by omega) (by decide) (by unfold fits; omega)))
  have HB3 := Lib.hid (HB2.out.alloc HB2.out.size (.cells #[Value.int .u8 1, .int .u8 2, .int .u8 3] 5))
  have HH3 := Lib.hid H3
  clear H3
  go_wp2_with (fail)
  refine W1.out.mono ?_
  rintro e w' ⟨rfl, rfl⟩
  clear W1
  generalize w2.alloc (.cells #[Value.int .u8 1, .int .u8 2, .int .u8 3] 5) = w3 at HB3 HH3 ⊢
  have H4 := HH3.out.later ((Below.refl _ w3).alloc (Nat.le_refl _) (.cells #[Value.int .u8 1, .int .u8 2] 5))
  have W2 := Lib.hid (write_ok H4 0 254 2 (by omega) (by decide) (some ⟨w3.heap.size, 0, none⟩) 2 (fun i => if i = 0 then 1 else 2) (fun _ => ⟨_, rfl, two_new w3⟩))
  have HB4 := Lib.hid (HB3.out.alloc HB3.out.size (.cells #[Value.int .u8 1, .int .u8 2] 5))
  clear H4
  go_wp2_with (fail)
  refine W2.out.mono ?_
  rintro e w5 ⟨rfl, H5, ho5⟩
  clear W2
  have HB5 := Lib.hid (ho5.below HB4.out HB4.out.size (fun k hk => by omega))
  have R1 := Lib.hid (read_ok H5 0 253 3 (by omega) (by decide))
  have HH5 := Lib.hid H5
  clear ho5 H5 HB4
  go_wp2_with (fail)
  refine R1.out.mono ?_
  rintro e w6 ⟨rfl, hr6, hb6⟩
  have H6 := HH5.out.later hb6
  have hs := run_string (f := fun i => putB (fun _ => 0) (0 * 256 + 254) 2 (fun i => if i = 0 then 1 else 2) (0 * 256 + 253 + i)) (c := 3) hr6
  rw [known_bytes] at hs
  have HB6 := Lib.hid (HB5.out.trans (hb6.mono HB5.out.size))
  obtain ⟨k2, _, hk2⟩ := H6.c2
  rw [hT4] at hk2
  have F1 := Lib.hid (frames_at M.m _ 4 k2 w6 hk2)
  have C1 := count_at H6 0 1 (by omega)
  have hst0 : stN fourG 0 = 0 := rfl
  have hst1 : stN fourG (0 + 1) = 4 := by unfold stN; rw [four_sum]; rfl
  rw [hst0, hst1, known_count] at C1
  have C2 := Lib.hid C1
  clear hr6 hb6 H6 hk2 C1 hst0 hst1 R1
  go_wp2_with (fail)
  refine F1.out.mono ?_
  rintro e w' ⟨rfl, rfl⟩
  go_wp2_with (fail)
  refine C2.out.mono ?_
  rintro e w7 ⟨rfl, hb7⟩
  have HB7 := Lib.hid (HB6.out.trans (hb7.mono HB6.out.size))
  clear hb7 hs
  go_wp2_with (fail)
  go_ret
  exact ⟨rfl, HB7.out⟩
end Go.Proofs.Ytecklmiiiklagaa
