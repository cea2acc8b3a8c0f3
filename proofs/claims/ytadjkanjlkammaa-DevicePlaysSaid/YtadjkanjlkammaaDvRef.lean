/-
  device's document: New, Write, Read.
-/
import Derived.Test.YtadjkanjlkammaaDvLast
namespace Go.Proofs.Ytadjkanjlkammaa
open Go.RowKit Go

/-- The document's device: n strings at rb, its own block r. -/
structure RefAt (w : World) (r rb n : Nat) (S : Nat → ByteArray) : Prop where
  c0 : w.cell? ⟨r, 0, none⟩ = some (.int .i64 n)
  c1 : ∃ cap, w.cell? ⟨r, 1, none⟩ = some (.slice (some ⟨rb, 0, none⟩) n cap)
  row : RowAt w rb n (fun k => .string (S k))
  n1 : n ≤ 1024
  d1 : rb ≠ r
theorem RefAt.later {w w' : World} {r rb n : Nat} {S : Nat → ByteArray} (H : RefAt w r rb n S) (h : Below w.heap.size w w') : RefAt w' r rb n S := by
  have hc : ∀ {o v}, w.cell? ⟨r, o, none⟩ = some v → w'.cell? ⟨r, o, none⟩ = some v := fun {o v} hv => by
    rw [h.cell (World.block_lt_of_cell? _ _ hv)]; exact hv
  obtain ⟨k, e⟩ := H.c1
  exact ⟨hc H.c0, ⟨k, hc e⟩, H.row.later h, H.n1, H.d1⟩
theorem RefAt.only {Q : Nat → Prop} {w w' : World} {r rb n : Nat} {S : Nat → ByteArray} (H : RefAt w r rb n S) (h : Only Q w w') (h1 : ¬ Q r) (h2 : ¬ Q rb) : RefAt w' r rb n S := by
  obtain ⟨k, e⟩ := H.c1
  exact ⟨h.cell h1 H.c0, ⟨k, h.cell h1 e⟩, H.row.only h h2, H.n1, H.d1⟩
theorem RefAt.lt {w : World} {r rb n : Nat} {S : Nat → ByteArray} (H : RefAt w r rb n S) : r < w.heap.size ∧ rb < w.heap.size := ⟨World.block_lt_of_cell? _ _ H.c0, H.row.lt⟩

/-- What the document's New leaves. -/
def RefNew (w : World) (n : Nat) (e : Ending) (w' : World) : Prop :=
  ∃ r rb, e = .returned (.pointer (some ⟨r, 0, none⟩)) ∧ RefAt w' r rb n (fun _ => ByteArray.empty) ∧ w.heap.size ≤ r ∧ w.heap.size ≤ rb ∧ Below w.heap.size w w'
theorem refnew_at {w : World} {n : Nat} {Z : Array Value} (hn : n ≤ 1024) (hZ : ∀ i, i < n → Z[i]? = some (Value.string ByteArray.empty)) :
    RefNew w n (.returned (.pointer (some ⟨w.heap.size + 1, 0, none⟩))) ((w.alloc (.cells Z 9)).alloc (.cells #[.int .i64 n, .slice (some ⟨w.heap.size, 0, none⟩) n n] 31)) := by
  refine ⟨w.heap.size + 1, w.heap.size, rfl, ⟨by simp [go_sem], ⟨n, by simp [go_sem]⟩, (RowAt.new w Z 9 n _ hZ).alloc _, hn, by omega⟩, by omega, Nat.le_refl _, ((Below.refl _ w).alloc (Nat.le_refl _) _).alloc (by simp) _⟩
theorem refnew_any (n : Int) (w : World) : Calls Try.prog 10 #[.int .i64 n] w (RefNew w (clampS n)) := by
  obtain ⟨m, hmn, hcs⟩ : ∃ m, clampS n = m ∧ ((n < 0 ∧ m = 0) ∨ (1024 < n ∧ m = 1024) ∨ (0 ≤ n ∧ n ≤ 1024 ∧ n = m)) := by
    refine ⟨_, rfl, ?_⟩
    unfold clampS
    split
    · omega
    · split <;> omega
  have hle : m ≤ 1024 := by omega
  rw [hmn]
  obtain ⟨Z, hZ, hm⟩ := make_strs m (by omega)
  have HN := Lib.hid (refnew_at (w := w) hle hZ)
  clear hZ hmn
  rcases hcs with ⟨h1, rfl⟩ | ⟨h1, rfl⟩ | ⟨h1, h2, rfl⟩
  · have hm : ∀ W, (Instr.makeSlice 29 (.int .i64 0) (.int .i64 0)).run Try.prog W = .ok (.slice (some ⟨W.heap.size, 0, none⟩) 0 0) (W.alloc (.cells Z 9)) := hm
    go_enter Try.func10, Try.ntmps10
    go_wp2_with (fail)
    go_ret
    simpa using HN.out
  · have hm : ∀ W, (Instr.makeSlice 29 (.int .i64 1024) (.int .i64 1024)).run Try.prog W = .ok (.slice (some ⟨W.heap.size, 0, none⟩) 1024 1024) (W.alloc (.cells Z 9)) := hm
    have h2 : 0 ≤ n := by omega
    go_enter Try.func10, Try.ntmps10
    go_wp2_with (fail)
    go_ret
    simpa using HN.out
  · go_enter Try.func10, Try.ntmps10
    go_wp2_with (fail)
    go_ret
    simpa using HN.out

/-- The answers of Write and Read. -/
def wrE (n : Nat) (sl : Int) (len : Nat) (fail : Bool) : Int := if 0 ≤ sl ∧ sl < n ∧ len = 256 then (if fail then 40 else 0) else 2
def rdE (n : Nat) (sl : Int) (fail : Bool) : Int := if 0 ≤ sl ∧ sl < n then (if fail then 40 else 0) else 2
def rdM (n : Nat) (sl : Int) (fail : Bool) : Nat := if 0 ≤ sl ∧ sl < n ∧ fail = false then 256 else 0
def updS (S : Nat → ByteArray) (i : Nat) (s : ByteArray) (j : Nat) : ByteArray := if j = i then s else S j

/-- What the document's Write leaves. -/
def RefWr (w : World) (r rb n : Nat) (S : Nat → ByteArray) (sl : Int) (len : Nat) (x : Nat → UInt8) (fail : Bool) (e : Ending) (w' : World) : Prop :=
  e = .returned (.int .i64 (wrE n sl len fail)) ∧ RefAt w' r rb n (if wrE n sl len fail = 0 then updS S sl.toNat (strB 256 x) else S) ∧ Only (Eq rb) w w'

/-- What the reads of Write want. -/
def RwS (r rb n k : Nat) (b : Option Addr) (x : Nat → UInt8) (W : World) : Prop := W.cell? ⟨r, 1, none⟩ = some (.slice (some ⟨rb, 0, none⟩) n k) ∧ Src W b 256 x
theorem RefAt.set {w : World} {r rb n : Nat} {S : Nat → ByteArray} (H : RefAt w r rb n S) (f : Nat) (s : ByteArray) : RefAt (w.setCell ⟨rb, f, none⟩ (.string s)) r rb n (updS S f s) := by
  obtain ⟨k, e⟩ := H.c1
  have ho := Only.setCell (S := Eq rb) w ⟨rb, f, none⟩ rfl (.string s)
  refine ⟨ho.cell H.d1 H.c0, ⟨k, ho.cell H.d1 e⟩, (H.row.setCell f (.string s)).ext (fun i _ => ?_), H.n1, H.d1⟩
  unfold updV updS
  split <;> rfl

set_option maxRecDepth 100000 in
set_option maxHeartbeats 1000000 in
theorem refwrite_any {w : World} {r rb n : Nat} {S : Nat → ByteArray} (H : RefAt w r rb n S) (sl : Int) (b : Option Addr) (len c : Nat) (x : Nat → UInt8) (fail : Bool) (X : Src w b len x) :
    Calls Try.prog 14 #[.pointer (some ⟨r, 0, none⟩), .int .i64 sl, .slice b len c, .bool fail] w (RefWr w r rb n S sl len x fail) := by
  have HH := Lib.hid H
  have HX := Lib.hid X
  have c0 := H.c0
  obtain ⟨k1, c1⟩ := H.c1
  have n1 := H.n1
  clear H X
  by_cases hin : 0 ≤ sl ∧ sl < n ∧ len = 256
  · obtain ⟨h1, h2, h3⟩ := hin
    obtain ⟨f, rfl⟩ := Int.eq_ofNat_of_zero_le h1
    have hf : f < n := by omega
    subst h3
    cases fail with
    | true =>
      have HW := Lib.hid (show RefWr w r rb n S f 256 x true (.returned (.int .i64 40)) w from by
        have e : wrE n f 256 true = 40 := by unfold wrE; rw [if_pos ⟨h1, h2, rfl⟩]; rfl
        unfold RefWr
        rw [e]
        exact ⟨rfl, HH.out, Only.refl _ _⟩)
      go_enter Try.func14, Try.ntmps14
      go_wp2_with (fail)
      go_ret
      exact HW.out
    | false =>
      have HW := Lib.hid (show ∀ w', RefAt w' r rb n (updS S f (strB 256 x)) → Only (Eq rb) w w' → RefWr w r rb n S f 256 x false (.returned (.int .i64 0)) w' from fun w' h1' h2' => by
        have e : wrE n f 256 false = 0 := by unfold wrE; rw [if_pos ⟨h1, h2, rfl⟩]; rfl
        unfold RefWr
        rw [e]
        exact ⟨rfl, h1', h2'⟩)
      go_enter Try.func14, Try.ntmps14
      go_wp2_with (fail)
      have L1 := Lib.hid (show ∀ W, RwS r rb n k1 b x W → (loadVar 29 ⟨r, 1, none⟩).run Try.prog W = .ok (.slice (some ⟨rb, 0, none⟩) n k1) W from
        fun W hW => run_loadVar_cell (fun _ => by kernel_rfl) hW.1)
      have L2 := Lib.hid (show ∀ W, RwS r rb n k1 b x W → (convert 32 9 (.slice b 256 c)).run Try.prog W = .ok (.string (strB 256 x)) W from
        fun W hW => run_string_src hW.2)
      have hd := HH.out.d1
      refine wp_region_lex1 (RwS r rb n k1 b x) [(0, false), (1, false), (2, false), (3, false), (4, false), (5, false), (6, false), (7, false), (8, true)]
        (by kernel_rfl) (by kernel_rfl) rfl (by kernel_rfl) ⟨c1, HX.out⟩ ?_
      intro W0 hW0 hK0
      have hb0 : Below w.heap.size w W0 := by rw [hW0]; exact (Below.refl _ w).drew
      have HB0 := Lib.hid hb0
      clear hW0 c0 c1
      refine lexH_yieldE rfl rfl ?_
      apply Exists.intro
      refine ⟨fun W hW => ?_, ?_⟩
      focus (go_simp; exact rfl)
      simp only [List.getElem_toArray, List.getElem_cons_zero, Act.put, List.setIfInBounds_toArray, List.set_cons_zero, List.set_cons_succ]
      refine lexH_yieldE rfl rfl ?_
      apply Exists.intro
      refine ⟨fun W hW => ?_, ?_⟩
      focus (go_simp; exact rfl)
      simp only [List.getElem_toArray, List.getElem_cons_succ, List.getElem_cons_zero, Act.put, List.setIfInBounds_toArray, List.set_cons_zero, List.set_cons_succ]
      refine lexH_yieldE rfl rfl ?_
      apply Exists.intro
      refine ⟨fun W hW => ?_, ?_⟩
      focus (go_simp; exact rfl)
      simp only [List.getElem_toArray, List.getElem_cons_succ, List.getElem_cons_zero, Act.put, List.setIfInBounds_toArray, List.set_cons_zero, List.set_cons_succ]
      refine lexH_load rfl rfl _ _ rfl rfl L1.out ?_
      simp only [List.getElem_toArray, List.getElem_cons_succ, List.getElem_cons_zero, Act.put, List.setIfInBounds_toArray, List.set_cons_zero, List.set_cons_succ]
      refine lexH_yieldE rfl rfl ?_
      apply Exists.intro
      refine ⟨fun W hW => ?_, ?_⟩
      focus (go_simp; exact rfl)
      simp only [List.getElem_toArray, List.getElem_cons_succ, List.getElem_cons_zero, Act.put, List.setIfInBounds_toArray, List.set_cons_zero, List.set_cons_succ]
      refine lexH_yieldE rfl rfl ?_
      apply Exists.intro
      refine ⟨fun W hW => ?_, ?_⟩
      focus (go_simp; exact rfl)
      simp only [List.getElem_toArray, List.getElem_cons_succ, List.getElem_cons_zero, Act.put, List.setIfInBounds_toArray, List.set_cons_zero, List.set_cons_succ]
      refine lexH_conv rfl rfl _ _ _ rfl rfl L2.out ?_
      simp only [List.getElem_toArray, List.getElem_cons_succ, List.getElem_cons_zero, Act.put, List.setIfInBounds_toArray, List.set_cons_zero, List.set_cons_succ]
      refine lexH_yieldE rfl rfl ?_
      apply Exists.intro
      refine ⟨fun W hW => ?_, ?_⟩
      focus (go_simp; exact rfl)
      simp only [List.getElem_toArray, List.getElem_cons_succ, List.getElem_cons_zero, Act.put, List.setIfInBounds_toArray, List.set_cons_zero, List.set_cons_succ]
      have H0 := HH.out.later hb0
      have c2 := H0.row.cell f hf
      have f2 := H0.row.frozen f
      have HN := Lib.hid (HW.out (W0.setCell ⟨rb, f, none⟩ (.string (strB 256 x))) (H0.set f _) ((Only.of_below hb0).trans (Only.setCell W0 ⟨rb, f, none⟩ rfl _)))
      have HS := Lib.hid (show RwS r rb n k1 b x (W0.setCell ⟨rb, f, none⟩ (.string (strB 256 x))) from
        ⟨by rw [World.cell?_setCell_other _ _ _ _ (by intro e; cases e; exact hd rfl)]; exact hK0.1, hK0.2.setStr c2 _⟩)
      clear H0 hb0 hK0
      refine lexH_eff rfl rfl ?_
      unfold Oper.wp
      go_simp
      refine ⟨HS.out, lexH_nil ?_⟩
      go_wp2_with (fail)
      go_ret
      exact HN.out
  · have HW := Lib.hid (show RefWr w r rb n S sl len x fail (.returned (.int .i64 2)) w from by
      have e : wrE n sl len fail = 2 := by unfold wrE; rw [if_neg hin]
      unfold RefWr
      rw [e]
      exact ⟨rfl, HH.out, Only.refl _ _⟩)
    have hcs : sl < 0 ∨ (0 ≤ sl ∧ (n : Int) ≤ sl) ∨ (0 ≤ sl ∧ sl < n ∧ ((len : Int) != 256) = true) := by
      by_cases h : sl < 0
      · exact .inl h
      · by_cases h2 : (n : Int) ≤ sl
        · exact .inr (.inl ⟨by omega, h2⟩)
        · exact .inr (.inr ⟨by omega, by omega, by simp; omega⟩)
    clear hin HX
    rcases hcs with h1 | ⟨h1, h2⟩ | ⟨h1, h2, h3⟩
    all_goals
      go_enter Try.func14, Try.ntmps14
      go_wp2_with (fail)
      go_ret
      exact HW.out
end Go.Proofs.Ytadjkanjlkammaa
