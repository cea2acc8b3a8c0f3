/-
  The document's own answer: the nodes of all frames, one by one.
-/
import Derived.Test.YtkckmdmpbhkgpaaRefWalk
import Derived.Test.YtkckmdmpbhkgpaaOrd
import Derived.Laws.AppendOwn
import Derived.OwnWalk
namespace Go.Proofs.Ytkckmdmpbhkgpaa
open Go.RowKit Go

/-- The nodes of the frames of the first k nodes. -/
def frL (g : Nat → Int) : Nat → List Int
  | 0 => []
  | k + 1 => frL g k ++ List.replicate (g (18 + k)).toNat (k : Int)
theorem frL_length (g : Nat → Int) : ∀ k, (∀ i, i < k → 0 ≤ g (18 + i)) → ((frL g k).length : Int) = sumF g k
  | 0, _ => rfl
  | k + 1, h => by
    have h1 := frL_length g k (fun i hi => h i (by omega))
    have h2 := h k (by omega)
    simp only [frL, List.length_append, List.length_replicate, sumF]
    omega

/-- What Frames leaves. -/
def FramesPost (l : List Int) (w : World) (e : Ending) (w' : World) : Prop :=
  ∃ v, e = .returned v ∧ w'.ownsRow w.heap.size 3 1 v l.length (l.map (Value.int .i64)) ∧ Below w.heap.size w w'

theorem frames_no (A : Array Value) (g : Nat → Int) (w : World) (hA : Cfg A g) (hm : mayB g = false) :
    Calls Try.prog 11 #[.agg A] w fun e w' => e = .returned (.slice none 0 0) ∧ Below w.heap.size w w' := by
  have C0 := CfgAt.new w hA
  have hB : Below w.heap.size w (w.alloc (.cells A 26)) := (Below.refl _ _).alloc (Nat.le_refl _) _
  have HA := Lib.hid hA
  have HM := Lib.hid hm
  clear hA hm
  go_enter Try.func11, Try.ntmps11
  go_wp2_with (fail)
  refine wp_loop_rounds 1 ?_
  rw [rounds_succ]
  go_wp2_with (refine wpList_load_cfg rfl _ rfl _ rfl C0 ?_)
  refine (refmay_any A g _ HA.out).mono ?_
  rintro e w1 ⟨rfl, hb⟩
  rw [HM.out]
  have hB1 := hB.trans (hb.mono hB.size)
  clear hb hB C0
  go_wp2_with (fail)
  go_ret
  exact ⟨rfl, hB1⟩

theorem kept_append {A : Array Value} {g : Nat → Int} {w wr w1 : World} {base n : Nat} {v : Value} {xs : List Value} {ob : Obj} {T : TypeId} (hown : wr.ownsRow base T 1 v n xs) (C : CfgAt wr w.heap.size A g) (hB : Below w.heap.size w wr) (hb : w.heap.size < base)
    (hg : (wr.alloc ob).grownBy w1 v.ownBlock) : CfgAt w1 w.heap.size A g ∧ Below w.heap.size w w1 := by
  have hr := (hown.alloc ob).lt
  refine ⟨⟨C.cfg, ?_⟩, (hB.alloc hB.size ob).grown hg (by simp; have := hB.size; omega) (fun k h => by have := hr k h; omega)⟩
  rw [hg.block w.heap.size (by simp; have := C.lt; omega) (fun e => by have := hr _ e.symm; omega), ((Below.refl wr.heap.size wr).alloc (Nat.le_refl _) ob).block _ C.lt]
  exact C.block

theorem owns_later {w w' : World} {base n : Nat} {T : TypeId} {v : Value} {xs : List Value} (h : w.ownsRow base T 1 v n xs) (hb : Below w.heap.size w w') : w'.ownsRow base T 1 v n xs := by
  refine h.kept (row := none) ⟨hb.os, hb.tape, hb.output, hb.size, fun k hk _ => hb.block k hk⟩ ?_
  cases e : v.ownBlock with
  | none => exact .inl rfl
  | some k => exact .inr (fun h => by cases h)

theorem one_new (wr : World) (x : Value) (T : TypeId) : ∀ j u, [x][j]? = some u → (wr.alloc (.cells #[x] T)).cell? ((⟨wr.heap.size, 0, none⟩ : Addr).add j) = some u := by
  intro j u hj
  match j, hj with
  | 0, hj =>
    simp at hj; subst hj
    show (wr.alloc (.cells #[x] T)).cell? ⟨wr.heap.size, 0, none⟩ = _
    rw [cell_of_row _ _ _ _ _ _ (heap_alloc_new wr _)]; rfl

set_option maxHeartbeats 1000000 in
theorem refframes_yes (A : Array Value) (g : Nat → Int) (n : Nat) (w : World) (hA : Cfg A g) (hm : mayB g = true) (hn : g 0 = n) :
    Calls Try.prog 11 #[.agg A] w (FramesPost (frL g n) w) := by
  obtain ⟨i0, hi, hz0, hz1, hz2⟩ := info_parts info3
  have C0 := CfgAt.new w hA
  have hB : Below w.heap.size w (w.alloc (.cells A 26)) := (Below.refl _ _).alloc (Nat.le_refl _) _
  have G := (good_iff g).1 hm
  have hn8 : n ≤ 8 := by have := G.n2; omega
  have HL := Lib.hid (show ∀ k, k ≤ n → (frL g k).length ≤ 1024 from fun k hk => by
    have h1 := frL_length g k (fun i hi => by have := G.frames i (by omega); omega)
    have h2 := sumF_bd g k (fun i hi => by have := G.frames i (by omega); omega)
    omega)
  have HG := Lib.hid G
  have HN := Lib.hid hn
  have HA := Lib.hid hA
  have HM := Lib.hid hm
  clear hA hm hn G
  go_enter Try.func11, Try.ntmps11
  go_wp2_with (fail)
  go_loopw [3, 4, 5] (fun v x _ wr => ∃ k : Nat, k ≤ n ∧ x = .int .i64 k ∧ Hid (wr.ownsRow (w.heap.size + 1) 3 1 v (frL g k).length ((frL g k).map (Value.int .i64))) ∧ CfgAt wr w.heap.size A g ∧ Below w.heap.size w wr) (fun _ x _ _ => n - (intOf x).toNat)
  case atStart => exact ⟨0, Nat.zero_le _, rfl, Lib.hid (World.ownsRow_nil _ _ _ _), C0, hB⟩
  case round =>
    clear C0 hB
    obtain ⟨k, hk, rfl, HO, C, hB⟩ := hrel
    go_wp2_with (refine wpList_load_cfg rfl _ rfl _ rfl C ?_)
    refine (refmay_any A g _ HA.out).mono ?_
    rintro e w1 ⟨rfl, hb⟩
    rw [HM.out]
    have C1 := C.later hb
    have hB1 := hB.trans (hb.mono hB.size)
    have HO1 := Lib.hid (owns_later HO.out hb)
    have c0 := C1.cell 0 (by decide)
    rw [HN.out] at c0
    clear hb hB C HO
    by_cases hlt : k < n
    · obtain ⟨f, hf⟩ := Int.eq_ofNat_of_zero_le (show 0 ≤ g (18 + k) by have := HG.out.frames k (by rw [HN.out]; omega); omega)
      have HS := Lib.hid (show frL g (k + 1) = frL g k ++ List.replicate f (k : Int) by show frL g k ++ List.replicate (g (18 + k)).toNat (k : Int) = _; rw [hf]; rfl)
      have hf8 : f ≤ 128 := by have := HG.out.frames k (by rw [HN.out]; omega); omega
      have HF := Lib.hid hf
      have ik : (k : Int) < 8 := by omega
      clear hf
      go_wp2_with (fail)
      clear c0
      go_loopw [3, 5] (fun v x wr => ∃ j : Nat, j ≤ f ∧ x = .int .i64 j ∧ Hid (wr.ownsRow (w.heap.size + 1) 3 1 v (frL g k ++ List.replicate j (k : Int)).length ((frL g k ++ List.replicate j (k : Int)).map (Value.int .i64))) ∧ CfgAt wr w.heap.size A g ∧ Below w.heap.size w wr) (fun _ x _ => f - (intOf x).toNat)
      case atStart => exact ⟨0, Nat.zero_le _, rfl, by simpa using HO1, C1, hB1⟩
      case round =>
        clear C1 hB1 HO1
        obtain ⟨j, hj, rfl, HO, C, hB⟩ := hrel
        have ck := C.cell (18 + k) (by omega)
        rw [HF.out] at ck
        by_cases hlj : j < f
        · have HLN := Lib.hid (show (frL g k ++ List.replicate j (k : Int)).length + 1 ≤ 1024 by
            have h1 := HL.out (k + 1) (by omega)
            rw [HS.out] at h1
            simp at h1 ⊢; omega)
          have hsz := hB.size
          go_wp2_with (at_builtin; refine wpList_append_own _ rfl _ _ 29 rfl (w.heap.size + 1) 3 i0 (.int .i64 0) 1 8 Try.underlying29 hi hz0 hz1 hz2 rfl (by decide) _ _ _ rfl (HO.out.alloc _) ⟨wr.heap.size, 0, none⟩ 1 1 [.int .i64 k] rfl rfl ?c1 ?c2 ?c3 ?c4 ?c5 ?_)
          case c1 => exact one_new wr _ _
          case c2 => intro u hu; simp at hu; subst hu; rfl
          case c3 => have := HLN.out; unfold maxLen; omega
          case c4 => have := HLN.out; omega
          case c5 => simp; omega
          intro v' w3 hown' hgrow _
          obtain ⟨C3, hB3⟩ := kept_append HO.out C hB (by omega) hgrow
          have HO3 := Lib.hid (show w3.ownsRow (w.heap.size + 1) 3 1 v' (frL g k ++ List.replicate (j + 1) (k : Int)).length ((frL g k ++ List.replicate (j + 1) (k : Int)).map (Value.int .i64)) by
            have e : frL g k ++ List.replicate (j + 1) (k : Int) = (frL g k ++ List.replicate j (k : Int)) ++ [(k : Int)] := by rw [List.replicate_succ', List.append_assoc]
            rw [e]
            simpa [Nat.add_assoc] using hown')
          clear hown' hgrow HO C hB ck
          go_wp2_with (fail)
          go_roundw
          case rel => exact ⟨j + 1, hlj, by go_num, HO3, C3, hB3⟩
          case measure => simp [intOf]; omega
        · obtain rfl : j = f := by omega
          go_wp2_with (fail)
          go_roundw
          case rel => exact ⟨k + 1, hlt, by go_num, by rw [HS.out]; exact HO, C, hB⟩
          case measure => simp [intOf]; omega
    · obtain rfl : k = n := by omega
      go_wp2_with (fail)
      go_ret
      exact ⟨_, rfl, ⟨HO1.out.1, by
        rcases HO1.out.2 with h | ⟨q, cap, cur, e1, e2, e3⟩
        · exact .inl h
        · exact .inr ⟨q, cap, cur, e1, by omega, e3⟩⟩, hB1⟩
end Go.Proofs.Ytkckmdmpbhkgpaa
