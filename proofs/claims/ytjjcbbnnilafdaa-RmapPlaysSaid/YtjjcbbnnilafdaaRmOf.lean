/-
  rmap, the document's: Of, New.
-/
import Derived.Test.YtjjcbbnnilafdaaRmSet
import Derived.Test.YtjjcbbnnilafdaaRec
import Derived.Laws.AppendOwn
namespace Go.Proofs.Ytjjcbbnnilafdaa
open Go.RowKit Go.Shelf Go
attribute [local go_sem] Oper.semAt_some

abbrev TPf : TypeId := 47
theorem infoPf : (Try.prog.info? 47).map (fun i => (i.zero, i.size, i.bytes)) = some (some (.agg #[.int .i64 0, .int .i64 0]), 2, 16) := by kernel_rfl
def encP (x : Nat × Nat) : List Value := [.int .i64 x.1, .int .i64 x.2]
theorem encP_len : ∀ p, (encP p).length = 2 := fun _ => rfl
theorem encP_one : ∀ p, ∀ u ∈ encP p, u.oneCell' = true := by
  intro p u h
  simp [encP] at h
  rcases h with rfl | rfl <;> rfl
theorem wpList_append_pf (w : World) {ops : Array Oper} {rest : List Oper} {o : Oper} {a : Act} {Q : Exit → Act → World → Prop} (hgd : o.guard = none) (s x : Operand)
    (ho : o.op = .call { callee := .builtin .append, args := #[s, x], argTypes := #[42, 42] })
    (base : Nat) (v : Value) (L : List (Nat × Nat)) (y1 y2 : Int) (k1 k2 : Nat) (e1 : y1 = k1) (e2 : y2 = k2) (hown : w.ownsRow base TPf 2 v L.length (recV encP L)) (hbase : base ≤ w.heap.size) (hs : a.eval s = v) (hx : a.eval x = .slice (some ⟨w.heap.size, 0, none⟩) 1 1)
    (hn : L.length ≤ 100000)
    (h : ∀ v' w', w'.ownsRow base TPf 2 v' (L ++ [(k1, k2)]).length (recV encP (L ++ [(k1, k2)])) → Only (fun k => v.ownBlock = some k) w w' → wpList Try.prog ops Q rest (a.put o.dst v') w') :
    wpList Try.prog ops Q (o :: rest) a (w.alloc (.cells #[.int .i64 y1, .int .i64 y2] TPf)) := by
  subst e1; subst e2
  obtain ⟨i0, hi, hz0, hz1, hz2⟩ := info_parts infoPf
  refine wpList_append_own _ hgd s x 42 ho base TPf i0 _ 2 16 Try.underlying42 hi hz0 hz1 hz2 rfl (by decide) v L.length (recV encP L) hs (hown.alloc _) ⟨w.heap.size, 0, none⟩ 1 1 (encP (k1, k2)) hx rfl (fun j u hj => ?_) (encP_one _) (by unfold maxLen; omega) (by omega) (by simp; omega) ?_
  · rw [Addr.add_lit, Nat.zero_add, cell_of_row _ _ _ _ _ _ (heap_alloc_new w _)]
    simpa [encP] using hj
  · intro v' w' h2 h3 _
    refine h v' w' ?_ ((Only.alloc _ w _).trans (Only.of_grown h3))
    rw [List.length_append, recV_append, recV_single]
    exact h2
section
variable {w w' : World} {rb lb N : Nat} {f : Nat → Ownr}
theorem ofL_no (p : Int) (hp : ¬ 1 ≤ p) : ∀ n, ofL f N p n = []
  | 0 => rfl
  | n + 1 => by rw [ofL, if_neg hp]
theorem ofL_next (p : Int) (n : Nat) : ofL f N p (n + 1) = if 0 ≤ frI f N p n then ofL f N p n ++ [(n, (frI f N p n).toNat)] else ofL f N p n := by
  by_cases hp : 1 ≤ p
  · rw [ofL, if_pos hp]
    unfold frI
    rw [if_pos hp]
    cases findF f (p.toNat, n) N with
    | some i => simp
    | none => simp
  · have : frI f N p n = -1 := if_neg hp
    rw [ofL_no p hp, ofL_no p hp, this]
    simp
theorem ofL_len (p : Int) : ∀ n, (ofL f N p n).length ≤ n
  | 0 => Nat.le_refl _
  | n + 1 => by
    have := ofL_len p n
    rw [ofL_next]
    split
    · simp; omega
    · omega
theorem frI_lt (p : Int) (n : Nat) : frI f N p n < N ∨ frI f N p n = -1 := by
  unfold frI
  split
  · cases h : findF f (p.toNat, n) N with
    | some i => left; have := (findF_some h).1; dsimp only; omega
    | none => exact .inr rfl
  · exact .inr rfl
/-- A list of its own. -/
def ListP (w : World) (L : List (Nat × Nat)) (e : Ending) (w' : World) : Prop := ∃ v, e = .returned v ∧ w'.ownsRow w.heap.size TPf 2 v L.length (recV encP L) ∧ Below w.heap.size w w'
set_option maxRecDepth 100000 in
set_option maxHeartbeats 4000000 in
theorem rof_any (R : RefM w rb lb N f) (hN : N ≤ 1024) (p : Int) : Calls Try.prog 18 #[.pointer (some ⟨rb, 0, none⟩), .int .i64 p] w (ListP w (ofL f N p 1024)) := by
  have HR := Lib.hid R
  clear R
  go_enter Try.func18, Try.ntmps18
  go_wp2_with (fail)
  go_loopw [5, 6] (fun u i wr => ∃ (k : Nat) (v : Value), k ≤ 1024 ∧ u = v ∧ i = .int .i64 k ∧ Hid (wr.ownsRow w.heap.size TPf 2 v (ofL f N p k).length (recV encP (ofL f N p k))) ∧ Hid (Below w.heap.size w wr)) (fun _ i _ => 1024 - (intOf i).toNat)
  case atStart => exact ⟨0, _, Nat.zero_le _, rfl, rfl, World.ownsRow_nil _ _ _ _, Lib.hid (Below.refl _ _)⟩
  case round =>
    obtain ⟨k, v, hk, hv0, rfl, HO, HB⟩ := hrel
    have hv0 := hv0.symm
    subst hv0
    by_cases hlt : k < 1024
    · have hltI : (k : Int) < 1024 := by omega
      have HX := Lib.hid (ofL_next (f := f) (N := N) p k)
      have HL := Lib.hid (ofL_len (f := f) (N := N) p k)
      have HF := Lib.hid (rfind_any (HR.out.later HB.out) hN p k)
      obtain ⟨fr, hfr⟩ : ∃ fr, frI f N p k = fr := ⟨_, rfl⟩
      rw [hfr] at HX HF
      by_cases h0 : 0 ≤ fr
      · obtain ⟨F, rfl⟩ : ∃ F : Nat, fr = F := ⟨fr.toNat, by omega⟩
        rw [if_pos h0, Int.toNat_natCast] at HX
        clear hfr
        go_wp2_with (fail)
        refine HF.out.mono ?_
        rintro e w2 ⟨rfl, hb⟩
        have HB2 := Lib.hid (HB.out.trans (hb.mono HB.out.size))
        have HO2 := Lib.hid (owns_later HO.out hb)
        clear hb HO HB
        go_wp2_with (first | (refine wpList_append_pf w2 rfl _ _ rfl w.heap.size _ _ _ _ k F rfl rfl HO2.out HB2.out.size rfl rfl (by have := HL.out; omega) ?_; intro v' w' ho hon) | fail)
        have HO3 := Lib.hid ho
        have HB3 := Lib.hid (hon.below HB2.out HB2.out.size (fun j hj => (HO2.out.lt j hj).1))
        clear ho hon
        go_roundw
        case rel => exact ⟨k + 1, v', hlt, rfl, by go_num, by rw [HX.out]; exact HO3, HB3⟩
        case measure => first | (simp [intOf]; omega) | simp [intOf]
      · rw [if_neg h0] at HX
        clear hfr
        go_wp2_with (fail)
        refine HF.out.mono ?_
        rintro e w2 ⟨rfl, hb⟩
        have HB2 := Lib.hid (HB.out.trans (hb.mono HB.out.size))
        have HO2 := Lib.hid (owns_later HO.out hb)
        clear hb HO HB
        go_wp2_with (fail)
        go_roundw
        case rel => exact ⟨k + 1, v, hlt, rfl, by go_num, by rw [HX.out]; exact HO2, HB2⟩
        case measure => first | (simp [intOf]; omega) | simp [intOf]
    · obtain rfl : k = 1024 := by omega
      go_wp2_with (fail)
      go_ret
      exact ⟨_, rfl, HO.out, HB.out⟩
end
end Go.Proofs.Ytjjcbbnnilafdaa
