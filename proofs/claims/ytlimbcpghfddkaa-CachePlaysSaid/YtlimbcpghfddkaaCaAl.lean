/-
  cache's law: numbers compared one by one, and written over; bytes of a call.
-/
import Derived.Test.YtlimbcpghfddkaaCaOps
import Derived.Test.YtlimbcpghfddkaaChAtN
import Derived.Test.YtlimbcpghfddkaaCaMake
namespace Go.Proofs.Ytlimbcpghfddkaa
open Go.RowKit Go

/-- Numbers of the law's own, from k on. -/
def OwnZ (w : World) (B : Nat) (la : Option Addr) (n : Nat) (z : Nat → Int) (k : Nat) : Prop :=
  ∀ j, k ≤ j → j < n → ∃ g, la = some ⟨g, 0, none⟩ ∧ B ≤ g ∧ w.cell? ⟨g, j, none⟩ = some (.int .i64 (z j)) ∧ w.frozen? ⟨g, j, none⟩ = false
theorem OwnZ.later {w W : World} {B n k : Nat} {la : Option Addr} {z : Nat → Int} (h : OwnZ w B la n z k) (hb : Below w.heap.size w W) : OwnZ W B la n z k := fun j h1 h2 => by
  obtain ⟨g, e, hg, hc, hf⟩ := h j h1 h2
  have hlt := World.block_lt_of_cell? _ _ hc
  exact ⟨g, e, hg, by rw [hb.cell hlt]; exact hc, by rw [hb.frozen hlt]; exact hf⟩
/-- Numbers that lie somewhere. -/
def AtZ (w : World) (lb : Option Addr) (n : Nat) (z : Nat → Int) : Prop :=
  ∀ j, j < n → ∃ b o, lb = some ⟨b, o, none⟩ ∧ w.cell? ⟨b, o + j, none⟩ = some (.int .i64 (z j))
theorem AtZ.later {w W : World} {n : Nat} {lb : Option Addr} {z : Nat → Int} (h : AtZ w lb n z) (hb : Below w.heap.size w W) : AtZ W lb n z := fun j h1 => by
  obtain ⟨b, o, e, hc⟩ := h j h1
  exact ⟨b, o, e, by rw [hb.cell (World.block_lt_of_cell? _ _ hc)]; exact hc⟩
section
variable {w : World} {B n ca cb : Nat} {la lb : Option Addr} {z : Nat → Int}
set_option maxRecDepth 100000 in
set_option maxHeartbeats 8000000 in
theorem alike_any (hA : OwnZ w B la n z 0) (hB : AtZ w lb n z) (hne : 0 < n → ∀ g o, la = some ⟨g, 0, none⟩ → lb ≠ some ⟨g, o, none⟩) (hn : n ≤ 1000) (hle : B ≤ w.heap.size) :
    Calls Try.prog 49 #[.slice la n ca, .slice lb n cb] w fun e w' => e = .returned (.bool true) ∧ Below B w w' := by
  have HA := Lib.hid hA
  have HB := Lib.hid hB
  have HNE := Lib.hid hne
  have HW := Lib.hid (Below.refl B w)
  have HLE := Lib.hid hle
  clear hA hB hne hle
  go_enter Try.func49, Try.ntmps49
  go_wp2_with (fail)
  go_loopw [13] (fun i wr => ∃ k : Nat, k ≤ n ∧ i = .int .i64 k ∧ Hid (Below B w wr) ∧ Hid (B ≤ wr.heap.size) ∧ Hid (OwnZ wr B la n z k) ∧ Hid (AtZ wr lb n z)) (fun i _ => n - (intOf i).toNat)
  case atStart => exact ⟨0, Nat.zero_le _, rfl, HW, HLE, HA, HB⟩
  case round =>
    clear HW HLE HA HB
    obtain ⟨k, hk, rfl, HW, HLE, HA, HB⟩ := hrel
    by_cases hlt : k < n
    · have hltI : (k : Int) < (n : Int) := by omega
      obtain ⟨g, rfl, hg, cg, fg⟩ := HA.out k (Nat.le_refl k) hlt
      obtain ⟨b, o, rfl, cb⟩ := HB.out k hlt
      have hgb : g ≠ b := fun e => HNE.out (by omega) g o rfl (by rw [e])
      have HLT := Lib.hid hlt
      have HS := Lib.hid (show ∀ V, Below wr.heap.size wr V → Below B w (V.setCell ⟨g, k, none⟩ (.int .i64 99)) ∧ B ≤ (V.setCell ⟨g, k, none⟩ (.int .i64 99)).heap.size ∧ OwnZ (V.setCell ⟨g, k, none⟩ (.int .i64 99)) B (some ⟨g, 0, none⟩) n z (k + 1) ∧ AtZ (V.setCell ⟨g, k, none⟩ (.int .i64 99)) (some ⟨b, o, none⟩) n z from fun V hV => by
        refine ⟨(HW.out.trans (hV.mono HLE.out)).setCell (p := ⟨g, k, none⟩) hg _, by rw [show (V.setCell ⟨g, k, none⟩ (.int .i64 99)).heap.size = V.heap.size by simp]; exact Nat.le_trans HLE.out hV.size, fun j h1 h2 => ?_, fun j h1 => ?_⟩
        · obtain ⟨g', e, h3, h4, h5⟩ := (HA.out.later hV) j (by omega) h2
          injection e with e
          injection e with e _ _
          subst e
          refine ⟨g, rfl, h3, ?_, ?_⟩
          · rw [World.cell?_setCell_other _ _ _ _ (by intro e; injection e with _ e _; omega)]
            exact h4
          · rw [World.frozen?_setCell]
            exact h5
        · obtain ⟨b', o', e, h4⟩ := (HB.out.later hV) j h1
          injection e with e
          injection e with e e2 _
          subst e
          subst e2
          refine ⟨b, o, rfl, ?_⟩
          rw [World.cell?_setCell_other _ _ _ _ (by intro e; injection e with e _ _; exact hgb e)]
          exact h4)
      clear hlt hgb HA HB HW HLE HNE
      generalize z k = x at *
      go_wp2_with (fail)
      go_quiet (fail)
      have hS := HS.out _ (below_drewN (Below.refl wr.heap.size wr) nq)
      have cgd : (wr.drewN nq).cell? ⟨g, k, none⟩ = some (.int .i64 x) := cg
      have fgd : (wr.drewN nq).frozen? ⟨g, k, none⟩ = false := fg
      have HS1 := Lib.hid hS.1
      have HS2 := Lib.hid hS.2.1
      have HS3 := Lib.hid hS.2.2.1
      have HS4 := Lib.hid hS.2.2.2
      clear hS HS cg fg cb
      generalize wr.drewN nq = V0 at *
      go_wp2_with (fail)
      go_roundw
      case rel => exact ⟨k + 1, HLT.out, by go_num, HS1, HS2, HS3, HS4⟩
      case measure => simp [intOf]; omega
    · obtain rfl : k = n := by omega
      go_wp2_with (fail)
      go_ret
      exact ⟨rfl, HW.out⟩
end
theorem make_bytesA (n : Nat) (h1 : n ≤ 1000) : ∃ Z : Array Value, (∀ i, i < n → Z[i]? = some (byV (fun _ => 0) i)) ∧
    ∀ W, (Instr.makeSlice 34 (.int .i64 n) (.int .i64 n)).run Try.prog W = .ok (.slice (some ⟨W.heap.size, 0, none⟩) n n) (W.alloc (.cells Z 5)) := by
  obtain ⟨i0, hi, hz0, hz1, hz2⟩ := info_parts infoByte
  refine ⟨madeCells #[Value.int .u8 0] n, fun i h => ?_, fun W => ?_⟩
  · have h1 := made_at #[Value.int .u8 0] n i (by simpa using h)
    rw [Array.getElem?_toList] at h1
    have : i % (#[Value.int .u8 0] : Array Value).size = 0 := Nat.mod_one i
    rw [h1, this]; rfl
  · have h := run_make (P := Try.prog) W 34 5 i0 _ Try.underlying34 hi hz0 .i64 .i64 n n (by omega) (by omega) (by rw [hz2]; omega) (by omega)
    rw [hz1, Int.toNat_natCast, Nat.mul_one] at h
    exact h
def OpA.arr (o : OpA) : Array Value := #[.int .i64 o.kind, .int .i64 o.fr, .int .i64 o.i, .int .u8 (o.fill.toNat : Nat), .bool o.short]
def OpA.n (o : OpA) : Nat := if o.short = true then 255 else 256
def opV (o : OpA) (sh : Bool) (i : Nat) : Value := if i = 0 then .int .i64 o.kind else if i = 1 then .int .i64 o.fr else if i = 2 then .int .i64 o.i else if i = 3 then .int .u8 (o.fill.toNat : Nat) else .bool sh
theorem fillStep {w wr : World} {n k : Nat} {o : OpA} {sh : Bool} (HB : Below w.heap.size w wr) (HR : RowAt wr (w.heap.size + 1) n (byV fun j => if j < k then o.fill else 0)) (HX : RowAt wr w.heap.size 5 (opV o sh)) (hlt : k < n) :
    Below w.heap.size w (wr.setCell ⟨w.heap.size + 1, k, none⟩ (.int .u8 (o.fill.toNat : Nat))) ∧ RowAt (wr.setCell ⟨w.heap.size + 1, k, none⟩ (.int .u8 (o.fill.toNat : Nat))) (w.heap.size + 1) n (byV fun j => if j < k + 1 then o.fill else 0) ∧ RowAt (wr.setCell ⟨w.heap.size + 1, k, none⟩ (.int .u8 (o.fill.toNat : Nat))) w.heap.size 5 (opV o sh) := by
  have hst := Only.setCell (S := fun q => q = w.heap.size + 1) wr ⟨w.heap.size + 1, k, none⟩ rfl (.int .u8 (o.fill.toNat : Nat))
  refine ⟨hst.below HB HB.size (fun q hq => by omega), (HR.setCell k _).ext (fun i hi => ?_), HX.only hst (by omega)⟩
  unfold updV byV
  by_cases e : i = k
  · subst e
    simp
  · rw [if_neg e]
    dsimp only
    by_cases e2 : i < k
    · rw [if_pos e2, if_pos (by omega)]
    · rw [if_neg e2, if_neg (by omega)]
def BytesP (w : World) (o : OpA) (e : Ending) (w' : World) : Prop :=
  ∃ b, e = .returned (.slice (some ⟨b, 0, none⟩) o.n o.n) ∧ w.heap.size ≤ b ∧ RowAt w' b o.n (byV fun _ => o.fill) ∧ Below w.heap.size w w'
set_option maxRecDepth 100000 in
set_option maxHeartbeats 8000000 in
theorem bytes_any (o : OpA) (w : World) : Calls Try.prog 12 #[.agg o.arr] w (BytesP w o) := by
  obtain ⟨Z, hZ, hmk⟩ := make_bytesA o.n (by unfold OpA.n; split <;> omega)
  have HZ := Lib.hid hZ
  clear hZ
  obtain ⟨nn, hnn⟩ : ∃ nn, o.n = nn := ⟨_, rfl⟩
  unfold BytesP
  rw [hnn] at hmk HZ ⊢
  have hn256 : nn ≤ 256 := by rw [← hnn]; unfold OpA.n; split <;> omega
  have hcs : (nn = 255 ∧ o.short = true) ∨ (nn = 256 ∧ o.short = false) := by
    rw [← hnn]
    unfold OpA.n
    cases o.short
    · exact .inr ⟨rfl, rfl⟩
    · exact .inl ⟨rfl, rfl⟩
  clear hnn
  rcases hcs with ⟨rfl, hs⟩ | ⟨rfl, hs⟩
  · have ea : o.arr = #[.int .i64 o.kind, .int .i64 o.fr, .int .i64 o.i, .int .u8 (o.fill.toNat : Nat), .bool o.short] := rfl
    rw [hs] at ea
    rw [ea]
    clear ea hs
    have hmk2 : ∀ W, (Instr.makeSlice 34 (.int .i64 255) (.int .i64 255)).run Try.prog W = .ok (.slice (some ⟨W.heap.size, 0, none⟩) 255 255) (W.alloc (.cells Z 5)) := hmk
    clear hmk
    go_enter Try.func12, Try.ntmps12
    go_wp2_with (fail)
    clear hmk2
    have hb0 : Below w.heap.size w ((w.alloc (.cells #[.int .i64 o.kind, .int .i64 o.fr, .int .i64 o.i, .int .u8 (o.fill.toNat : Nat), .bool true] 33)).alloc (.cells Z 5)) := ((Below.refl _ w).alloc (Nat.le_refl _) _).alloc (by simp) _
    have hr0 := RowAt.new (w.alloc (.cells #[.int .i64 o.kind, .int .i64 o.fr, .int .i64 o.i, .int .u8 (o.fill.toNat : Nat), .bool true] 33)) Z 5 255 _ HZ.out
    have hx0 := (RowAt.new w #[.int .i64 o.kind, .int .i64 o.fr, .int .i64 o.i, .int .u8 (o.fill.toNat : Nat), .bool true] 33 5 (opV o true) (fun i hi => by rcases (show i = 0 ∨ i = 1 ∨ i = 2 ∨ i = 3 ∨ i = 4 by omega) with rfl | rfl | rfl | rfl | rfl <;> rfl)).later ((Below.refl _ (w.alloc (.cells #[.int .i64 o.kind, .int .i64 o.fr, .int .i64 o.i, .int .u8 (o.fill.toNat : Nat), .bool true] 33))).alloc (Nat.le_refl _) (.cells Z 5))
    rw [show (w.alloc (.cells #[.int .i64 o.kind, .int .i64 o.fr, .int .i64 o.i, .int .u8 (o.fill.toNat : Nat), .bool true] 33)).heap.size = w.heap.size + 1 by simp] at hr0
    have HB0 := Lib.hid hb0
    have HR0 := Lib.hid hr0
    have HX0 := Lib.hid hx0
    clear hb0 hr0 hx0
    generalize (w.alloc (.cells #[.int .i64 o.kind, .int .i64 o.fr, .int .i64 o.i, .int .u8 (o.fill.toNat : Nat), .bool true] 33)).alloc (.cells Z 5) = w1 at *
    go_wp2_with (fail)
    go_loopw [14] (fun i wr => ∃ k : Nat, k ≤ 255 ∧ i = .int .i64 k ∧ Hid (Below w.heap.size w wr) ∧ Hid (RowAt wr (w.heap.size + 1) 255 (byV fun j => if j < k then o.fill else 0)) ∧ Hid (RowAt wr w.heap.size 5 (opV o true))) (fun i _ => 255 - (intOf i).toNat)
    case atStart => exact ⟨0, Nat.zero_le _, rfl, HB0, HR0, HX0⟩
    case round =>
      clear HB0 HR0 HX0
      obtain ⟨k, hk, rfl, HB, HR, HX⟩ := hrel
      by_cases hlt : k < 255
      · have hltI : (k : Int) < 255 := by omega
        have c3 : wr.cell? ⟨w.heap.size, 3, none⟩ = some (.int .u8 (o.fill.toNat : Nat)) := HX.out.cell 3 (by decide)
        have cr : wr.cell? ⟨w.heap.size + 1, k, none⟩ = some (byV (fun j => if j < k then o.fill else 0) k) := HR.out.cell k hlt
        have fr : wr.frozen? ⟨w.heap.size + 1, k, none⟩ = false := HR.out.frozen k
        have HS := Lib.hid (fillStep HB.out HR.out HX.out hlt)
        generalize byV (fun j => if j < k then o.fill else 0) k = old at *
        generalize w.heap.size + 1 = rb at *
        clear HB HR HX
        go_wp2_with (fail)
        go_roundw
        case rel => exact ⟨k + 1, hlt, by go_num, Lib.hid HS.out.1, Lib.hid HS.out.2.1, Lib.hid HS.out.2.2⟩
        case measure => simp [intOf]; omega
      · obtain rfl : k = 255 := by omega
        go_wp2_with (fail)
        go_ret
        exact ⟨w.heap.size + 1, rfl, by omega, HR.out.ext (fun i hi => by unfold byV; dsimp only; rw [if_pos hi]), HB.out⟩
  · have ea : o.arr = #[.int .i64 o.kind, .int .i64 o.fr, .int .i64 o.i, .int .u8 (o.fill.toNat : Nat), .bool o.short] := rfl
    rw [hs] at ea
    rw [ea]
    clear ea hs
    have hmk2 : ∀ W, (Instr.makeSlice 34 (.int .i64 256) (.int .i64 256)).run Try.prog W = .ok (.slice (some ⟨W.heap.size, 0, none⟩) 256 256) (W.alloc (.cells Z 5)) := hmk
    clear hmk
    go_enter Try.func12, Try.ntmps12
    go_wp2_with (fail)
    clear hmk2
    have hb0 : Below w.heap.size w ((w.alloc (.cells #[.int .i64 o.kind, .int .i64 o.fr, .int .i64 o.i, .int .u8 (o.fill.toNat : Nat), .bool false] 33)).alloc (.cells Z 5)) := ((Below.refl _ w).alloc (Nat.le_refl _) _).alloc (by simp) _
    have hr0 := RowAt.new (w.alloc (.cells #[.int .i64 o.kind, .int .i64 o.fr, .int .i64 o.i, .int .u8 (o.fill.toNat : Nat), .bool false] 33)) Z 5 256 _ HZ.out
    have hx0 := (RowAt.new w #[.int .i64 o.kind, .int .i64 o.fr, .int .i64 o.i, .int .u8 (o.fill.toNat : Nat), .bool false] 33 5 (opV o false) (fun i hi => by rcases (show i = 0 ∨ i = 1 ∨ i = 2 ∨ i = 3 ∨ i = 4 by omega) with rfl | rfl | rfl | rfl | rfl <;> rfl)).later ((Below.refl _ (w.alloc (.cells #[.int .i64 o.kind, .int .i64 o.fr, .int .i64 o.i, .int .u8 (o.fill.toNat : Nat), .bool false] 33))).alloc (Nat.le_refl _) (.cells Z 5))
    rw [show (w.alloc (.cells #[.int .i64 o.kind, .int .i64 o.fr, .int .i64 o.i, .int .u8 (o.fill.toNat : Nat), .bool false] 33)).heap.size = w.heap.size + 1 by simp] at hr0
    have HB0 := Lib.hid hb0
    have HR0 := Lib.hid hr0
    have HX0 := Lib.hid hx0
    clear hb0 hr0 hx0
    generalize (w.alloc (.cells #[.int .i64 o.kind, .int .i64 o.fr, .int .i64 o.i, .int .u8 (o.fill.toNat : Nat), .bool false] 33)).alloc (.cells Z 5) = w1 at *
    go_wp2_with (fail)
    go_loopw [14] (fun i wr => ∃ k : Nat, k ≤ 256 ∧ i = .int .i64 k ∧ Hid (Below w.heap.size w wr) ∧ Hid (RowAt wr (w.heap.size + 1) 256 (byV fun j => if j < k then o.fill else 0)) ∧ Hid (RowAt wr w.heap.size 5 (opV o false))) (fun i _ => 256 - (intOf i).toNat)
    case atStart => exact ⟨0, Nat.zero_le _, rfl, HB0, HR0, HX0⟩
    case round =>
      clear HB0 HR0 HX0
      obtain ⟨k, hk, rfl, HB, HR, HX⟩ := hrel
      by_cases hlt : k < 256
      · have hltI : (k : Int) < 256 := by omega
        have c3 : wr.cell? ⟨w.heap.size, 3, none⟩ = some (.int .u8 (o.fill.toNat : Nat)) := HX.out.cell 3 (by decide)
        have cr : wr.cell? ⟨w.heap.size + 1, k, none⟩ = some (byV (fun j => if j < k then o.fill else 0) k) := HR.out.cell k hlt
        have fr : wr.frozen? ⟨w.heap.size + 1, k, none⟩ = false := HR.out.frozen k
        have HS := Lib.hid (fillStep HB.out HR.out HX.out hlt)
        generalize byV (fun j => if j < k then o.fill else 0) k = old at *
        generalize w.heap.size + 1 = rb at *
        clear HB HR HX
        go_wp2_with (fail)
        go_roundw
        case rel => exact ⟨k + 1, hlt, by go_num, Lib.hid HS.out.1, Lib.hid HS.out.2.1, Lib.hid HS.out.2.2⟩
        case measure => simp [intOf]; omega
      · obtain rfl : k = 256 := by omega
        go_wp2_with (fail)
        go_ret
        exact ⟨w.heap.size + 1, rfl, by omega, HR.out.ext (fun i hi => by unfold byV; dsimp only; rw [if_pos hi]), HB.out⟩
end Go.Proofs.Ytlimbcpghfddkaa
