/-
  areas, the document's: set.
-/
import Derived.Test.YthnkbipdlepbaaaArRun
namespace Go.Proofs.Ythnkbipdlepbaaa
open Go.RowKit Go
abbrev TArr : TypeId := 27
/-- Other rights of n pages from p on. -/
def setF (f : Nat → Nat) (p n r : Nat) : Nat → Nat := fun i => if p ≤ i ∧ i < p + n then r else f i
def setE (f : Nat → Nat) (p n r : Nat) : Int := if 32 < (runsTo (setF f p n r) 1024).length then 9 else 0
def setA (f : Nat → Nat) (p n r : Nat) : Nat → Nat := if 32 < (runsTo (setF f p n r) 1024).length then f else setF f p n r
theorem setF_zero (f : Nat → Nat) (p r : Nat) : setF f p 0 r = f := by
  funext i
  unfold setF
  rw [if_neg (by omega)]
theorem setF_next (f : Nat → Nat) (p k r i : Nat) : setF f p (k + 1) r i = if i = p + k then r else setF f p k r i := by
  unfold setF
  by_cases h : i = p + k
  · rw [if_pos (by omega), if_pos h]
  · rw [if_neg h]
    by_cases h2 : p ≤ i ∧ i < p + k
    · rw [if_pos (by omega), if_pos h2]
    · rw [if_neg (by omega), if_neg h2]
/-- All pages, as cells. -/
def riL (f : Nat → Nat) : List Value := (List.range 1024).map (riV f)
theorem riL_len (f : Nat → Nat) : (riL f).length = 1024 := by rw [riL, List.length_map, List.length_range]
theorem riL_at (f : Nat → Nat) {i : Nat} (h : i < 1024) : (riL f)[i]? = some (riV f i) := by rw [riL, List.getElem?_map, List.getElem?_range h]; rfl
theorem riL_one (f : Nat → Nat) : (riL f).toArray.all (·.oneCell') = true := all_oneCell_toArray fun v hv => by
  rw [riL, List.mem_map] at hv
  obtain ⟨i, _, rfl⟩ := hv
  rfl
theorem infoArr : (Try.prog.info? TArr).map (·.size) = some 1024 := by kernel_rfl
def zeroP : Array Value := Array.replicate 1024 (.int .u8 0)
theorem zeroP_size : zeroP.size = 1024 := Array.size_replicate
theorem zero_pages (W : World) : (zeroValue TArr).run Try.prog W = .ok (.agg zeroP) W := by kernel_rfl
theorem store_pages (w : World) (f : Nat → Nat) : (storeVar TArr ⟨w.heap.size, 0, none⟩ (.agg (riL f).toArray)).run Try.prog (w.alloc (.cells zeroP TArr)) = .ok () (w.alloc (.cells (riL f).toArray TArr)) :=
  run_storeVar_new (P := Try.prog) w TArr zeroP _ (by rw [List.size_toArray, riL_len]; exact infoArr) (zeroP_size.trans (by rw [List.size_toArray, riL_len])) (riL_one f)
theorem pages_row (w : World) (f : Nat → Nat) : RefR (w.alloc (.cells (riL f).toArray TArr)) w.heap.size f :=
  RowAt.new w _ _ _ _ fun i hi => by rw [List.getElem?_toArray]; exact riL_at f hi
theorem pages_range {w : World} {b : Nat} {f : Nat → Nat} (R : RefR w b f) : w.rangeAt b 0 (riL f) := R.range 0 _ fun j v hj => by
  have h1 := (List.getElem?_eq_some_iff.1 hj).1
  rw [riL_len] at h1
  rw [riL_at f h1] at hj
  exact ⟨by omega, by simpa using hj⟩
theorem pages_back {w : World} {b : Nat} {f g : Nat → Nat} (R : RefR w b g) : RefR (w.setCells b 0 (riL f)) b f := (RowAt.setCells (riL f) 0 w _ R).ext fun i hi => by
  rw [riL_len, if_pos (by omega), Nat.sub_zero, List.getD_eq_getElem?_getD, riL_at f hi]
  rfl
/-- It is set, or refused. -/
def SetP (w : World) (rb : Nat) (E : Int) (g : Nat → Nat) (e : Ending) (w' : World) : Prop := e = .returned (.int .i64 E) ∧ RefR w' rb g ∧ Only (fun k => k = rb) w w'
section
variable {w : World} {rb : Nat} {f : Nat → Nat}
set_option maxRecDepth 100000 in
set_option maxHeartbeats 4000000 in
theorem rset_any (R : RefR w rb f) (p n r : Nat) (h : p + n ≤ 1024) : Calls Try.prog 31 #[.pointer (some ⟨rb, 0, none⟩), .int .i64 p, .int .i64 n, .int .u8 r] w (SetP w rb (setE f p n r) (setA f p n r)) := by
  have hz := zero_pages
  have HST := Lib.hid (store_pages w f)
  have HG := Lib.hid (pages_range R)
  have HP := Lib.hid (pages_row w f)
  have hb : Below w.heap.size w (w.alloc (.cells (riL f).toArray TArr)) := (Below.refl _ w).alloc (Nat.le_refl _) _
  have HB := Lib.hid hb
  have HR := Lib.hid (R.later hb)
  have HL := Lib.hid R.lt
  clear hb R
  go_enter Try.func31, Try.ntmps31
  go_wp2_with (first | refine wpList_store_run rfl TArr _ _ rfl w.heap.size _ _ rfl rfl HST.out ?_ | refine wpList_load_mid rfl TArr _ rfl rb 0 rfl (riL f) _ HG.out Try.underlying27 rfl (by rw [riL_len]; exact infoArr) ?_)
  clear hz HST HG
  generalize hN : w.heap.size = N at *
  have HN := Lib.hid hN
  clear hN
  generalize w.alloc (.cells (riL f).toArray TArr) = w1 at *
  go_loopw [10] (fun i wr => ∃ k : Nat, k ≤ n ∧ i = .int .i64 ((p + k : Nat) : Int) ∧ Hid (RefR wr rb (setF f p k r)) ∧ Hid (Only (fun q => q = rb) w1 wr)) (fun i _ => p + n - (intOf i).toNat)
  case atStart => exact ⟨0, Nat.zero_le _, rfl, by rw [setF_zero]; exact HR, Only.refl _ _⟩
  case round =>
    obtain ⟨k, hk, rfl, HRk, HO⟩ := hrel
    by_cases hlt : k < n
    · have c0 := HRk.out.at (k := p + k) (by omega)
      have z0 := HRk.out.frozen (p + k)
      have HR2 := Lib.hid (show RefR (wr.setCell ⟨rb, p + k, none⟩ (.int .u8 r)) rb (setF f p (k + 1) r) from (HRk.out.setCell (p + k) (.int .u8 r)).ext fun i hi => by
        unfold updV riV
        rw [setF_next]
        by_cases e : i = p + k
        · rw [if_pos e, if_pos e]
        · rw [if_neg e, if_neg e])
      have HO2 := Lib.hid (HO.out.trans (Only.setCell (S := fun q => q = rb) wr ⟨rb, p + k, none⟩ rfl (.int .u8 r)))
      clear HRk HO
      go_wp2_with (fail)
      go_roundw
      case rel => exact ⟨k + 1, hlt, by go_num, HR2, HO2⟩
      case measure => simp [intOf]; omega
    · obtain rfl : k = n := by omega
      go_wp2_with (fail)
      refine (rruns_any HRk.out).mono ?_
      rintro e w2 ⟨v, rfl, hv, hb2⟩
      obtain ⟨a, c, rfl, _⟩ := owns_slice hv
      have HP2 := Lib.hid ((HP.out.only HO.out (by have := HL.out; omega)).later hb2)
      have HR2 := Lib.hid (show RefR w2 rb (setF f p k r) from HRk.out.later hb2)
      have HO2 := Lib.hid (show Only (fun q => q = rb) w w2 from ((Only.of_below (HN.out ▸ HB.out)).trans HO.out).trans (Only.of_below hb2))
      have HE := Lib.hid (show setE f p k r = if 32 < (runsTo (setF f p k r) 1024).length then 9 else 0 from rfl)
      have HA := Lib.hid (show setA f p k r = if 32 < (runsTo (setF f p k r) 1024).length then f else setF f p k r from rfl)
      have hlen := runs_len (setF f p k r) 1024
      clear hv hb2 HRk HO HP HR HB
      generalize (runsTo (setF f p k r) 1024).length = n at *
      by_cases hf : 32 < n
      · have hfI : (32 : Int) < n := by omega
        have HE2 := Lib.hid (HE.out.trans (if_pos hf))
        have HA2 := Lib.hid (HA.out.trans (if_pos hf))
        have HRG := Lib.hid (pages_range HP2.out)
        have HTH := Lib.hid (show w2.there rb 0 (riL f).toArray.size by rw [List.size_toArray, riL_len]; exact HR2.out.there 0 1024 (by omega))
        have HRB := Lib.hid (pages_back (f := f) HR2.out)
        have HOB := Lib.hid (HO2.out.trans (Only.setCells (S := fun q => q = rb) rfl (riL f) 0 w2))
        clear hf HE HA
        go_wp2_with (first | refine wpList_store_mid rfl TArr _ _ rfl rb 0 (riL f).toArray rfl rfl HTH.out (by rw [List.size_toArray, riL_len]; exact infoArr) (riL_one f) ?_ | refine wpList_load_mid rfl TArr _ rfl N 0 rfl (riL f) _ HRG.out Try.underlying27 rfl (by rw [riL_len]; exact infoArr) ?_)
        go_ret
        rw [HE2.out, HA2.out]
        exact ⟨rfl, HRB.out, HOB.out⟩
      · have hfI : ¬ (32 : Int) < n := by omega
        have HE2 := Lib.hid (HE.out.trans (if_neg hf))
        have HA2 := Lib.hid (HA.out.trans (if_neg hf))
        clear hf HE HA
        go_wp2_with (fail)
        go_ret
        rw [HE2.out, HA2.out]
        exact ⟨rfl, HR2.out, HO2.out⟩
end
end Go.Proofs.Ythnkbipdlepbaaa
