/-
  cache: one that is not there, or a zero one; the walk of CacheNone.
-/
import Derived.Test.YtlimbcpghfddkaaCaKnown
import Derived.Laws.IdiomRangeMap
namespace Go.Proofs.Ytlimbcpghfddkaa
open Go.RowKit Go Go.Maps

def zeroK (i : Nat) : Value := if i < 2 then .int .i64 0 else .map none
def CaGone (W : World) (q : Option Addr) : Prop := q = none ∨ ∃ d, q = some ⟨d, 0, none⟩ ∧ RowAt W d 3 zeroK
section
variable {w W : World} {q : Option Addr}
theorem CaGone.later (h : CaGone w q) (hb : Below w.heap.size w W) : CaGone W q := h.imp id fun ⟨d, e, R⟩ => ⟨d, e, R.later hb⟩
set_option maxRecDepth 100000 in
theorem gmissing (h : CaGone w q) : Calls Try.prog 36 #[.pointer q] w fun e w' => e = .returned (.bool true) ∧ w = w' := by
  rcases h with rfl | ⟨d, rfl, R⟩
  · go_enter Try.func36, Try.ntmps36
    go_wp2_with (fail)
    go_ret
    exact ⟨rfl, rfl⟩
  · have c0 : w.cell? ⟨d, 0, none⟩ = some (.int .i64 0) := R.cell 0 (by decide)
    go_enter Try.func36, Try.ntmps36
    go_wp2_with (fail)
    go_ret
    exact ⟨rfl, rfl⟩
set_option maxRecDepth 100000 in
theorem gsize (h : CaGone w q) : Calls Try.prog 33 #[.pointer q] w fun e w' => e = .returned (.int .i64 0) ∧ w = w' := by
  rcases h with rfl | ⟨d, rfl, R⟩
  · go_enter Try.func33, Try.ntmps33
    go_wp2_with (fail)
    go_ret
    exact ⟨rfl, rfl⟩
  · have c0 : w.cell? ⟨d, 0, none⟩ = some (.int .i64 0) := R.cell 0 (by decide)
    go_enter Try.func33, Try.ntmps33
    go_wp2_with (fail)
    go_ret
    exact ⟨rfl, rfl⟩
set_option maxRecDepth 100000 in
theorem gtake (h : CaGone w q) : Calls Try.prog 15 #[.pointer q] w fun e w' => e = .returned (.tuple #[.int .i64 0, .int .i64 0, .int .i64 1]) ∧ w = w' := by
  go_enter Try.func15, Try.ntmps15
  go_wp2_with (fail)
  refine (gmissing h).mono ?_
  rintro e w' ⟨rfl, rfl⟩
  go_wp2_with (fail)
  go_ret3
  exact ⟨rfl, rfl⟩
set_option maxRecDepth 100000 in
theorem gslab (h : CaGone w q) (x : Int) : Calls Try.prog 21 #[.pointer q, .int .i64 x] w fun e w' => e = .returned (.tuple #[.pointer none, .int .i64 1]) ∧ w = w' := by
  go_enter Try.func21, Try.ntmps21
  go_wp2_with (fail)
  refine (gmissing h).mono ?_
  rintro e w' ⟨rfl, rfl⟩
  go_wp2_with (fail)
  go_ret2
  exact ⟨rfl, rfl⟩
set_option maxRecDepth 100000 in
theorem gadd (h : CaGone w q) (x : Int) (v : Value) : Calls Try.prog 13 #[.pointer q, .int .i64 x, v] w fun e w' => e = .returned (.int .i64 1) ∧ w = w' := by
  go_enter Try.func13, Try.ntmps13
  go_wp2_with (fail)
  refine (gmissing h).mono ?_
  rintro e w' ⟨rfl, rfl⟩
  go_wp2_with (fail)
  go_ret
  exact ⟨rfl, rfl⟩
set_option maxRecDepth 100000 in
theorem ggive (h : CaGone w q) (x i : Int) : Calls Try.prog 17 #[.pointer q, .int .i64 x, .int .i64 i] w fun e w' => e = .returned (.int .i64 1) ∧ w = w' := by
  go_enter Try.func17, Try.ntmps17
  go_wp2_with (fail)
  refine (gslab h x).mono ?_
  rintro e w' ⟨rfl, rfl⟩
  go_wp2_with (fail)
  go_ret
  exact ⟨rfl, rfl⟩
set_option maxRecDepth 100000 in
theorem gdrop (h : CaGone w q) (x : Int) : Calls Try.prog 19 #[.pointer q, .int .i64 x] w fun e w' => e = .returned (.int .i64 1) ∧ w = w' := by
  go_enter Try.func19, Try.ntmps19
  go_wp2_with (fail)
  refine (gslab h x).mono ?_
  rintro e w' ⟨rfl, rfl⟩
  go_wp2_with (fail)
  go_ret
  exact ⟨rfl, rfl⟩
def GNone (w : World) (e : Ending) (w' : World) : Prop := e = .returned (.slice none 0 0) ∧ Below w.heap.size w w'
set_option maxRecDepth 100000 in
set_option maxHeartbeats 2000000 in
theorem gthose (h : CaGone w q) (F : Value) : Calls Try.prog 40 #[.pointer q, F] w (GNone w) := by
  rcases h with rfl | ⟨d, rfl, R⟩
  · have HB := Lib.hid (show GNone w (.returned (.slice none 0 0)) w from ⟨rfl, Below.refl _ _⟩)
    go_enter Try.func40, Try.ntmps40
    go_wp2_with (fail)
    go_ret
    exact HB.out
  · have c2 : w.cell? ⟨d, 2, none⟩ = some (.map none) := R.cell 2 (by decide)
    have hrg := run_range_nilMap (P := Try.prog) w 57 3 41 Try.underlying57
    have HB := Lib.hid (show Below w.heap.size w (w.alloc (.mapIter none 0 #[] 0)) from (Below.refl _ _).alloc (Nat.le_refl _) _)
    have HNX := Lib.hid (show ∀ ty, (Instr.next (.pointer (some ⟨w.heap.size, 0, none⟩)) false ty).run Try.prog (w.alloc (.mapIter none 0 #[] 0)) = .ok (.tuple #[.bool false]) (w.alloc (.mapIter none 0 #[] 0)) from fun ty => run_next_nilMap _ ty 0 0 #[])
    clear R
    go_enter Try.func40, Try.ntmps40
    go_wp2_with (fail)
    generalize hw1 : w.alloc (.mapIter none 0 #[] 0) = w1 at *
    clear hw1 hrg c2
    have hnx := HNX.out
    go_loop [5] (fun v => v = .slice none 0 0) (fun _ => 0)
    case atStart => rfl
    case round =>
      subst hrel
      go_wp2_with (fail)
      refine (sort_any (base := 0) (v := .slice none 0 0) (l := []) (World.ownsRow_nil _ _ _ _) (by decide)).mono ?_
      rintro e w2 ⟨rfl, _, ho⟩
      have HF := Lib.hid (show GNone w (.returned (.slice none 0 0)) w2 from ⟨rfl, ho.below HB.out HB.out.size (fun k hk => by cases hk)⟩)
      clear ho hnx
      go_wp2_with (fail)
      go_ret
      exact HF.out
set_option maxRecDepth 100000 in
theorem gframes (h : CaGone w q) : Calls Try.prog 32 #[.pointer q] w (GNone w) := by
  have HT := Lib.hid (gthose h (.func (.func 54) #[] #[]))
  clear h
  go_enter Try.func32, Try.ntmps32
  go_wp2_with (fail)
  refine HT.out.mono ?_
  rintro e w' ⟨rfl, hb⟩
  have HB := Lib.hid hb
  clear hb HT
  go_wp2_with (fail)
  go_ret
  exact ⟨rfl, HB.out⟩
set_option maxRecDepth 100000 in
theorem gempty (h : CaGone w q) : Calls Try.prog 31 #[.pointer q] w (GNone w) := by
  have HT := Lib.hid (gthose h (.func (.func 42) #[] #[]))
  clear h
  go_enter Try.func31, Try.ntmps31
  go_wp2_with (fail)
  refine HT.out.mono ?_
  rintro e w' ⟨rfl, hb⟩
  have HB := Lib.hid hb
  clear hb HT
  go_wp2_with (fail)
  go_ret
  exact ⟨rfl, HB.out⟩
end
set_option maxRecDepth 100000 in
theorem zero_cache (W : World) : (zeroValue 59).run Try.prog W = .ok (.agg #[.int .i64 0, .int .i64 0, .map none]) W := by kernel_rfl
set_option maxRecDepth 100000 in
set_option maxHeartbeats 8000000 in
theorem lawNone_any (x i : Int) (w : World) : Calls Try.prog 6 #[.int .i64 x, .int .i64 i] w fun e w' => e = .returned (.bool true) ∧ Below w.heap.size w w' := by
  have hzz := zero_cache
  have hb : Below w.heap.size w ((w.alloc (.cells #[.int .i64 0, .int .i64 0, .map none] 59)).alloc (.cells #[.pointer none, .pointer (some ⟨w.heap.size, 0, none⟩)] 24)) := ((Below.refl _ _).alloc (Nat.le_refl _) _).alloc (by simp) _
  have HB := Lib.hid hb
  have HZ := Lib.hid ((RowAt.new w #[.int .i64 0, .int .i64 0, .map none] 59 3 zeroK (fun i hi => by rcases (show i = 0 ∨ i = 1 ∨ i = 2 by omega) with rfl | rfl | rfl <;> rfl)).alloc (.cells #[.pointer none, .pointer (some ⟨w.heap.size, 0, none⟩)] 24))
  have HL := Lib.hid (show RowAt ((w.alloc (.cells #[.int .i64 0, .int .i64 0, .map none] 59)).alloc (.cells #[.pointer none, .pointer (some ⟨w.heap.size, 0, none⟩)] 24)) (w.heap.size + 1) 2 (fun i => if i = 0 then .pointer none else .pointer (some ⟨w.heap.size, 0, none⟩)) by
    have h := RowAt.new (w.alloc (.cells #[.int .i64 0, .int .i64 0, .map none] 59)) #[.pointer none, .pointer (some ⟨w.heap.size, 0, none⟩)] 24 2 (fun i => if i = 0 then .pointer none else .pointer (some ⟨w.heap.size, 0, none⟩)) (fun i hi => by
      rcases (show i = 0 ∨ i = 1 by omega) with rfl | rfl <;> rfl)
    rw [show (w.alloc (.cells #[.int .i64 0, .int .i64 0, .map none] 59)).heap.size = w.heap.size + 1 by simp] at h
    exact h)
  have hs2 : w.heap.size + 1 < ((w.alloc (.cells #[.int .i64 0, .int .i64 0, .map none] 59)).alloc (.cells #[.pointer none, .pointer (some ⟨w.heap.size, 0, none⟩)] 24)).heap.size := by simp
  obtain ⟨Z, hZ, hmk⟩ := make_bytesK
  clear hb hZ
  go_enter Try.func6, Try.ntmps6
  go_wp2_with (fail)
  generalize (w.alloc (.cells #[.int .i64 0, .int .i64 0, .map none] 59)).alloc (.cells #[.pointer none, .pointer (some ⟨w.heap.size, 0, none⟩)] 24) = W at *
  clear hzz
  go_loopw [17] (fun v wr => ∃ k : Nat, k ≤ 2 ∧ v = .int .i64 k ∧ Hid (Below W.heap.size W wr)) (fun v _ => 2 - (intOf v).toNat)
  case atStart => exact ⟨0, Nat.zero_le _, rfl, Lib.hid (Below.refl _ _)⟩
  case round =>
    obtain ⟨k, hk, rfl, HBW⟩ := hrel
    by_cases hlt : k < 2
    · have hltI : (k : Int) < 2 := by omega
      obtain ⟨q, hc, hG⟩ : ∃ q, wr.cell? ⟨w.heap.size + 1, k, none⟩ = some (.pointer q) ∧ CaGone wr q := by
        have HL2 := HL.out.later HBW.out
        rcases (show k = 0 ∨ k = 1 by omega) with rfl | rfl
        · exact ⟨none, HL2.cell 0 (by decide), .inl rfl⟩
        · exact ⟨_, HL2.cell 1 (by decide), .inr ⟨w.heap.size, rfl, HZ.out.later HBW.out⟩⟩
      have HG := Lib.hid hG
      clear hG
      go_wp2_with (fail)
      refine (gtake HG.out).mono ?_
      rintro e w' ⟨rfl, rfl⟩
      go_wp2_with (fail)
      refine (gslab HG.out x).mono ?_
      rintro e w' ⟨rfl, rfl⟩
      go_wp2_with (fail)
      have HB1 := Lib.hid (show Below wr.heap.size wr (wr.alloc (.cells Z 5)) from (Below.refl _ _).alloc (Nat.le_refl _) _)
      clear hc
      generalize wr.alloc (.cells Z 5) = w1 at *
      have HG1 := Lib.hid (HG.out.later HB1.out)
      have HBW1 := Lib.hid (HBW.out.trans (HB1.out.mono HBW.out.size))
      clear HB1 HG HBW
      refine (gadd HG1.out x _).mono ?_
      rintro e w' ⟨rfl, rfl⟩
      go_wp2_with (fail)
      refine (ggive HG1.out x i).mono ?_
      rintro e w' ⟨rfl, rfl⟩
      go_wp2_with (fail)
      refine (gdrop HG1.out x).mono ?_
      rintro e w' ⟨rfl, rfl⟩
      go_wp2_with (fail)
      refine (gsize HG1.out).mono ?_
      rintro e w' ⟨rfl, rfl⟩
      go_wp2_with (fail)
      refine (gframes HG1.out).mono ?_
      rintro e w2 ⟨rfl, hb⟩
      have HG2 := Lib.hid (HG1.out.later hb)
      have HBW2 := Lib.hid (HBW1.out.trans (hb.mono HBW1.out.size))
      clear hb HG1 HBW1
      go_wp2_with (fail)
      refine (gempty HG2.out).mono ?_
      rintro e w3 ⟨rfl, hb⟩
      have HBW3 := Lib.hid (HBW2.out.trans (hb.mono HBW2.out.size))
      clear hb HG2 HBW2
      go_wp2_with (fail)
      go_roundw
      case rel => exact ⟨k + 1, hlt, by go_num, HBW3⟩
      case measure => simp [intOf]; omega
    · obtain rfl : k = 2 := by omega
      go_wp2_with (fail)
      refine (kknown_any wr).mono ?_
      rintro e w' ⟨rfl, hb⟩
      have HF := Lib.hid ((HB.out.trans (HBW.out.mono HB.out.size)).trans (hb.mono (Nat.le_trans HB.out.size HBW.out.size)))
      clear hb
      go_wp2_with (fail)
      go_ret
      exact ⟨rfl, HF.out⟩
end Go.Proofs.Ytlimbcpghfddkaa
