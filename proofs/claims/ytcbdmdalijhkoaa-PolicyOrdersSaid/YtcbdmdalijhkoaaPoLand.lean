/-
  policy, pure: the bits of a byte; turns, sorted; an interleaved order put together. Of no program.
  policy, the landed: has; the library's functions on a byte's bits.
  policy, the landed: sift.
  policy, the landed: May.
  policy, the landed: Allowed.
  policy, the landed: interleaved (slices.Sort by contract).
  policy, the landed: slices.Sort of what sift kept.
  policy, the landed: Order.
  policy: the landed policy is what the laws want.
-/
import Derived.Test.YtcbdmdalijhkoaaPoPure
import Derived.Test.YtcbdmdalijhkoaaRow
import Derived.Lib.BitFns
import Derived.Test.YtcbdmdalijhkoaaPoCpB
import Derived.Test.YtcbdmdalijhkoaaShl
import Derived.Lib.Strings
import Derived.Lib.Slices
import Derived.Lib.Small
import Derived.Lib.Walk
import Derived.Laws.BitsAllLaws
import Derived.Test.YtcbdmdalijhkoaaOwn
import Derived.Test.YtcbdmdalijhkoaaCopyW
import Derived.Shelf.Abstract
import Derived.Test.YtcbdmdalijhkoaaShlf
import Derived.Sort.OwnSortedInts
import Derived.Test.YtcbdmdalijhkoaaPoCo
import Derived.Test.YtcbdmdalijhkoaaPoOk
namespace Go.Proofs.Ytcbdmdalijhkoaa
section
open Go

theorem ones_inN : ∀ m : Fin 256, Lib.onesCount m.val = (inN m.val 8).length := by decide +kernel
theorem len_inN : ∀ (m : Fin 256) (n : Fin 9), decide (Lib.bitLen m.val ≤ n.val) = (inN m.val 8).all (fun i => decide (i < n.val)) := by decide +kernel
theorem ntz_inN : ∀ m : Fin 256, (inN m.val 8).length ≠ 0 → Lib.trailingZeros8 m.val = (inN m.val 8)[0]! := by decide +kernel
/-- What sift keeps of rising numbers' nearness, sorted. -/
theorem sort_rise {l : List Nat} {m : List Nat} (hn : l.Nodup) (hm : m.Pairwise fun x y => x < y) (h : ∀ x, x ∈ l ↔ x ∈ m) : (l.map fun x : Nat => (x : Int)).mergeSort (fun x y => decide (x ≤ y)) = m.map fun x : Nat => (x : Int) := by
  have hmn : m.Nodup := hm.imp fun {x y} h e => by omega
  have hp : ((l.map fun x : Nat => (x : Int)).mergeSort fun x y => decide (x ≤ y)).Perm (m.map fun x : Nat => (x : Int)) := (List.mergeSort_perm _ _).trans (((List.perm_ext_iff_of_nodup hn hmn).2 h).map _)
  have h1 := List.pairwise_mergeSort (le := fun x y : Int => decide (x ≤ y)) (fun a b c h1 h2 => by simp at *; omega) (fun a b => by simp; omega) (l.map fun x : Nat => (x : Int))
  exact hp.eq_of_pairwise (le := fun x y : Int => decide (x ≤ y) = true) (fun a b _ _ h1 h2 => by simp at h1 h2; omega) h1 (List.pairwise_map.2 (hm.imp fun {x y} h => by simp; omega))
theorem inN_rise (m n : Nat) : (inN m n).Pairwise fun x y => x < y := by
  unfold inN
  exact List.pairwise_lt_range.filter _
/-- The nodes of a mask, kept out of any order of all nodes, and sorted. -/
theorem turns_eq {g : Nat → Int} {k n mask : Nat} (hn : n ≤ 8) : (((nearN g k n).filter (hasM mask)).map fun x : Nat => (x : Int)).mergeSort (fun x y => decide (x ≤ y)) = (inN mask n).map fun x : Nat => (x : Int) := by
  refine sort_rise ((nearN_nodup hn).filter _) (inN_rise _ _) (fun x => ?_)
  rw [List.mem_filter, mem_nearN hn, mem_inN]
theorem kept_len {g : Nat → Int} {k n mask : Nat} (hn : n ≤ 8) : ((nearN g k n).filter (hasM mask)).length = (inN mask n).length := by
  have := congrArg List.length (turns_eq (g := g) (k := k) (mask := mask) hn)
  rw [List.length_mergeSort, List.length_map, List.length_map] at this
  exact this
theorem filt_two (p : Nat → Bool) : ∀ l : List Nat, (l.filter p).length + (l.filter (fun x => !p x)).length = l.length
  | [] => rfl
  | x :: l => by
    have ih := filt_two p l
    cases hp : p x with
    | false =>
      rw [List.filter_cons_of_neg (by rw [hp]; decide), List.filter_cons_of_pos (by rw [hp]; rfl), List.length_cons, List.length_cons]
      omega
    | true =>
      rw [List.filter_cons_of_pos hp, List.filter_cons_of_neg (by rw [hp]; decide), List.length_cons, List.length_cons]
      omega
theorem rest_len {g : Nat → Int} {k n mask : Nat} (hn : n ≤ 8) : ((nearN g k n).filter (fun x => !hasM mask x)).length = n - (inN mask n).length := by
  have h1 := kept_len (g := g) (k := k) (mask := mask) hn
  have h2 := filt_two (hasM mask) (nearN g k n)
  rw [nearN_len] at h2
  omega
/-- Three parts laid one behind the other. -/
theorem laid3 (f0 : Nat → Value) (a b c : List Nat) (i x : Nat) (h : (a ++ b ++ c)[i]? = some x) :
    putF (putF (putF f0 0 a.length (fun j => .int .i64 ((a[j]! : Nat) : Int))) a.length b.length (fun j => .int .i64 ((b[j]! : Nat) : Int))) (a.length + b.length) c.length (fun j => .int .i64 ((c[j]! : Nat) : Int)) i = .int .i64 (x : Int) := by
  obtain ⟨hl, hx⟩ := List.getElem?_eq_some_iff.1 h
  rw [List.length_append, List.length_append] at hl
  unfold putF
  by_cases h1 : i < a.length
  · rw [if_neg (by omega), if_neg (by omega), if_pos ⟨by omega, by omega⟩, Nat.sub_zero]
    show Value.int .i64 ((a[i]! : Nat) : Int) = _
    rw [getElem!_pos a i h1, ← hx, List.getElem_append_left (by rw [List.length_append]; omega), List.getElem_append_left h1]
  · by_cases h2 : i < a.length + b.length
    · rw [if_neg (by omega), if_pos ⟨by omega, by omega⟩]
      show Value.int .i64 ((b[i - a.length]! : Nat) : Int) = _
      rw [getElem!_pos b (i - a.length) (by omega), ← hx, List.getElem_append_left (by rw [List.length_append]; omega), List.getElem_append_right (by omega)]
    · rw [if_pos ⟨by omega, by omega⟩]
      show Value.int .i64 ((c[i - (a.length + b.length)]! : Nat) : Int) = _
      rw [getElem!_pos c (i - (a.length + b.length)) (by omega), ← hx, List.getElem_append_right (by rw [List.length_append]; omega)]
      simp only [List.length_append]
end
section
open Go.RowKit Go
attribute [local go_sem] Oper.semAt_some

theorem len8_int_any (x : Int) (h0 : 0 ≤ x) (h1 : x ≤ 255) (w : World) : Calls Try.prog 16 #[.int .u8 x] w fun e w' => e = .returned (.int .i64 (Lib.bitLen x.toNat)) ∧ w = w' := by
  have e : wrap64 (Lib.len8 x) = (Lib.bitLen x.toNat : Int) := by
    have h := Lib.len8_int x h0 h1
    generalize Lib.len8 x = z at *
    unfold wrap64
    exact h
  go_enter Try.func16, Try.ntmps16
  go_wp2
  go_ret
  rw [← e]
  exact ⟨rfl, rfl⟩
theorem ones8_int_any (x : Int) (h0 : 0 ≤ x) (h1 : x ≤ 255) (w : World) : Calls Try.prog 17 #[.int .u8 x] w fun e w' => e = .returned (.int .i64 (Lib.onesCount x.toNat)) ∧ w = w' := by
  have e : wrap64 (Lib.pop8 x) = (Lib.onesCount x.toNat : Int) := by
    have h := Lib.pop8_int x h0 h1
    generalize Lib.pop8 x = z at *
    unfold wrap64
    exact h
  go_enter Try.func17, Try.ntmps17
  go_wp2
  go_ret
  rw [← e]
  exact ⟨rfl, rfl⟩
theorem ntz8_int_any (x : Int) (h0 : 0 ≤ x) (h1 : x ≤ 255) (w : World) : Calls Try.prog 20 #[.int .u8 x] w fun e w' => e = .returned (.int .i64 (Lib.trailingZeros8 x.toNat)) ∧ w = w' := by
  have e : wrap64 (Lib.ntz8 x) = (Lib.trailingZeros8 x.toNat : Int) := by
    have h := Lib.ntz8_int x h0 h1
    generalize Lib.ntz8 x = z at *
    unfold wrap64
    exact h
  go_enter Try.func20, Try.ntmps20
  go_wp2
  go_ret
  rw [← e]
  exact ⟨rfl, rfl⟩
theorem len8_any (m : Nat) (hm : m ≤ 255) (w : World) : Calls Try.prog 16 #[.int .u8 (m : Int)] w fun e w' => e = .returned (.int .i64 (Lib.bitLen m)) ∧ w = w' := by
  have h := len8_int_any (m : Int) (by omega) (by omega) w
  rw [Int.toNat_natCast] at h
  exact h
theorem ones8_any (m : Nat) (hm : m ≤ 255) (w : World) : Calls Try.prog 17 #[.int .u8 (m : Int)] w fun e w' => e = .returned (.int .i64 ((inN m 8).length : Int)) ∧ w = w' := by
  have h := ones8_int_any (m : Int) (by omega) (by omega) w
  have e : (Lib.onesCount m) = (inN m 8).length := ones_inN ⟨m, by omega⟩
  rw [Int.toNat_natCast, e] at h
  exact h
theorem ntz8_any (m : Nat) (hm : m ≤ 255) (w : World) : Calls Try.prog 20 #[.int .u8 (m : Int)] w fun e w' => e = .returned (.int .i64 (Lib.trailingZeros8 m)) ∧ w = w' := by
  have h := ntz8_int_any (m : Int) (by omega) (by omega) w
  rw [Int.toNat_natCast] at h
  exact h
set_option maxRecDepth 100000
set_option maxHeartbeats 4000000
theorem bit_hasM (m x : Nat) (hm : m ≤ 255) : decide (0 < bits .and .u8 ((m : Int) / 2 ^ x) 1) = hasM m x := by
  have e : (m : Int) / 2 ^ x = ((m / 2 ^ x : Nat) : Int) := by simp
  have hq : m / 2 ^ x ≤ m := Nat.div_le_self _ _
  rw [e, show (1 : Int) = ((1 : Nat) : Int) from rfl, u8_and_nat _ _ (by omega) (by decide), Nat.and_one_is_mod]
  unfold hasM
  have hz := Nat.mod_lt (m / 2 ^ x) (show 0 < 2 by decide)
  generalize m / 2 ^ x % 2 = z at *
  by_cases h : z = 0
  · subst h; rfl
  · obtain rfl : z = 1 := by omega
    rfl
theorem lhas_any (m x : Nat) (hm : m ≤ 255) (hx : x ≤ 7) (w : World) : Calls Try.prog 23 #[.int .u8 (m : Int), .int .i64 (x : Int)] w fun e w' => e = .returned (.bool (hasM m x)) ∧ w = w' := by
  go_enter Try.func23, Try.ntmps23
  go_wp2_with (fail)
  go_ret
  refine ⟨?_, rfl⟩
  rw [← bit_hasM m x hm]
  rfl
theorem order1_any (m x b : Nat) (hm : m ≤ 255) (hx : x ≤ 7) (w : World) (h : w.cell? ⟨b, 1, none⟩ = some (.int .u8 (m : Int))) : Calls Try.prog 22 #[.int .i64 (x : Int), .pointer (some ⟨b, 0, none⟩)] w fun e w' => e = .returned (.bool (hasM m x)) ∧ w = w' := by
  go_enter Try.func22, Try.ntmps22
  go_wp2_with (fail)
  refine (lhas_any m x hm hx w).mono ?_
  rintro e w1 ⟨rfl, rfl⟩
  go_wp2_with (fail)
  go_ret
  exact ⟨rfl, rfl⟩
theorem inter1_any (m x b : Nat) (hm : m ≤ 255) (hx : x ≤ 7) (w : World) (h : w.cell? ⟨b, 0, none⟩ = some (.int .u8 (m : Int))) : Calls Try.prog 38 #[.int .i64 (x : Int), .pointer (some ⟨b, 0, none⟩)] w fun e w' => e = .returned (.bool (hasM m x)) ∧ w = w' := by
  go_enter Try.func38, Try.ntmps38
  go_wp2_with (fail)
  refine (lhas_any m x hm hx w).mono ?_
  rintro e w1 ⟨rfl, rfl⟩
  go_wp2_with (fail)
  go_ret
  exact ⟨rfl, rfl⟩
theorem inter2_any (m x b : Nat) (hm : m ≤ 255) (hx : x ≤ 7) (w : World) (h : w.cell? ⟨b, 0, none⟩ = some (.int .u8 (m : Int))) : Calls Try.prog 40 #[.int .i64 (x : Int), .pointer (some ⟨b, 0, none⟩)] w fun e w' => e = .returned (.bool (!hasM m x)) ∧ w = w' := by
  go_enter Try.func40, Try.ntmps40
  go_wp2_with (fail)
  refine (lhas_any m x hm hx w).mono ?_
  rintro e w1 ⟨rfl, rfl⟩
  go_wp2_with (fail)
  go_ret
  exact ⟨rfl, rfl⟩
end
section
open Go.RowKit Go
attribute [local go_sem] Oper.semAt_some

theorem infoSift : (Try.prog.info? 3).map (fun i => (i.zero, i.size, i.bytes)) = some (some (.int .i64 0), 1, 8) := by kernel_rfl
/-- Numbers as values. -/
def lisV (l : List Nat) : List Value := l.map fun x : Nat => Value.int .i64 (x : Int)
/-- As far as i. -/
def KeptR (w : World) (q : Nat → Bool) (L : List Nat) (i : Nat) (u : Value) (W : World) : Prop :=
  W.ownsRow w.heap.size 3 1 u ((L.take i).filter q).length (lisV ((L.take i).filter q)) ∧ Below w.heap.size w W
theorem KeptR.no {w W : World} {q : Nat → Bool} {L : List Nat} {i x : Nat} {u : Value} (h : KeptR w q L i u W) (hx : L[i]? = some x) (hq : q x = false) : KeptR w q L (i + 1) u W := by
  unfold KeptR at *
  rw [List.take_add_one, hx, Option.toList_some, List.filter_append, List.filter_cons_of_neg (by rw [hq]; decide), List.filter_nil, List.append_nil]
  exact h
theorem KeptR.yes {w W W' : World} {q : Nat → Bool} {L : List Nat} {i x : Nat} {u u' : Value} (h : KeptR w q L i u W) (hx : L[i]? = some x) (hq : q x = true)
    (ho : W'.ownsRow w.heap.size 3 1 u' (((L.take i).filter q).length + 1) (lisV ((L.take i).filter q) ++ [.int .i64 (x : Int)])) (hk : Only (fun k => u.ownBlock = some k) W W') : KeptR w q L (i + 1) u' W' := by
  unfold KeptR
  rw [List.take_add_one, hx, Option.toList_some, List.filter_append, List.filter_cons_of_pos hq, List.filter_nil, List.length_append]
  refine ⟨by unfold lisV at ho ⊢; rw [List.map_append]; exact ho, hk.below h.2 h.2.size (fun k hk => ?_)⟩
  obtain ⟨_, ⟨rfl, _⟩ | ⟨g, cap, cur, rfl, hb, _⟩⟩ := h.1
  · cases hk
  · have e : g = k := by simpa [Value.ownBlock] using hk
    omega
set_option maxRecDepth 100000 in
set_option maxHeartbeats 4000000 in
theorem sift_any (F : Nat) (p : Option Addr) (q : Nat → Bool) (w : World) (eg : ∀ args w, (callFunc F args).run Try.prog w = .ok (.enter F args) w)
    (hF : ∀ (W : World) (x : Nat), x ≤ 7 → Below w.heap.size w W → Calls Try.prog F #[.int .i64 (x : Int), .pointer p] W fun e W' => e = .returned (.bool (q x)) ∧ W = W')
    (v : Value) (L : List Nat) (hL : LstAt w v L) (h8 : ∀ x ∈ L, x ≤ 7) (hl : L.length ≤ 8) :
    Calls Try.prog 21 #[v, .func (.func F) #[] #[.pointer p]] w fun e w' => ∃ u, e = .returned u ∧ w'.ownsRow w.heap.size 3 1 u (L.filter q).length (lisV (L.filter q)) ∧ Below w.heap.size w w' := by
  obtain ⟨a, c, rfl, hL⟩ := hL
  have HL := Lib.hid hL
  have HF := Lib.hid hF
  have H8 := Lib.hid h8
  clear hL hF h8
  obtain ⟨i0, hi0, hz0, hz1, hz2⟩ := info_parts infoSift
  go_enter Try.func21, Try.ntmps21
  go_wp2_with (fail)
  go_loopw [5, 10] (fun u iv wr => ∃ i : Nat, iv = .int .i64 i ∧ i ≤ L.length ∧ Hid (KeptR w q L i u wr)) (fun _ iv _ => L.length - (intOf iv).toNat)
  case atStart => exact ⟨0, rfl, Nat.zero_le _, Lib.hid ⟨⟨rfl, .inl ⟨rfl, rfl⟩⟩, Below.refl _ _⟩⟩
  case round =>
    obtain ⟨i, rfl, hi, HK⟩ := hrel
    by_cases hlt : i < L.length
    · have hltI : (i : Int) < L.length := by omega
      obtain ⟨x, hx⟩ : ∃ x, L[i]? = some x := ⟨_, List.getElem?_eq_getElem hlt⟩
      obtain ⟨b, o, rfl, c1⟩ := HL.out i x hx
      have c1 : wr.cell? ⟨b, o + i, none⟩ = some (.int .i64 (x : Int)) := by rw [HK.out.2.cell (World.block_lt_of_cell? _ _ c1)]; exact c1
      have hx7 := H8.out x (List.mem_of_getElem? hx)
      have HF1 := Lib.hid (HF.out wr x hx7 HK.out.2)
      have HX := Lib.hid hx
      clear hx
      cases hq : q x with
      | false =>
        rw [hq] at HF1
        have HK2 := Lib.hid (HK.out.no HX.out hq)
        go_wp2_with (fail)
        refine HF1.out.mono ?_
        rintro e w1 ⟨rfl, rfl⟩
        clear c1
        go_wp2_with (fail)
        go_roundw
        case rel => exact ⟨i + 1, by go_num, hlt, HK2⟩
        case measure => simp [intOf]; omega
      | true =>
        rw [hq] at HF1
        have HQ := Lib.hid hq
        clear hq
        have hn : ((L.take i).filter q).length ≤ 1000 := Nat.le_trans (List.length_filter_le _ _) (by rw [List.length_take]; omega)
        go_wp2_with (fail)
        refine HF1.out.mono ?_
        rintro e w1 ⟨rfl, rfl⟩
        clear c1
        go_wp2_with (at_builtin; refine wpList_append_one wr rfl _ _ 31 rfl w.heap.size 3 i0 _ 1 8 Try.underlying31 hi0 hz0 hz1 hz2 rfl (by decide) _ _ _ #[.int .i64 (x : Int)] HK.out.1 HK.out.2.size rfl rfl rfl (one_cell _ _) hn (by decide) ?_; intro v' w2 hown ho _)
        have HK2 := Lib.hid (HK.out.yes HX.out HQ.out hown ho)
        clear hown ho
        go_wp2_with (fail)
        go_roundw
        case rel => exact ⟨i + 1, by go_num, hlt, HK2⟩
        case measure => simp [intOf]; omega
    · obtain rfl : i = L.length := by omega
      go_wp2_with (fail)
      go_ret
      have h := HK.out
      unfold KeptR at h
      rw [List.take_length] at h
      exact ⟨_, rfl, h.1, h.2⟩
end
section
open Go.RowKit Go
attribute [local go_sem] Oper.semAt_some

theorem mayP_kind {g : Nat → Int} {k m : Nat} (h : mayB g = true) (h2 : (inN m 8).all (fun i => decide ((i : Int) < g 0)) = true) : mayP g k m = kindB k m := by
  unfold mayP
  rw [h, h2, Bool.true_and, Bool.true_and]
theorem len_fits {g : Nat → Int} {m n : Nat} (hm : m ≤ 255) (hn : g 0 = n) (h8 : n ≤ 8) : (inN m 8).all (fun i => decide ((i : Int) < g 0)) = decide (Lib.bitLen m ≤ n) := by
  have h : decide (Lib.bitLen m ≤ n) = (inN m 8).all (fun i => decide (i < n)) := len_inN ⟨m, by omega⟩ ⟨n, by omega⟩
  rw [h, hn]
  congr 1
  funext i
  exact decide_eq_decide.2 (by omega)
theorem kind_0 (m : Nat) : kindB 0 m = (((inN m 8).length : Int) == 0) := by
  unfold kindB
  rw [if_pos rfl]
  exact Bool.eq_iff_iff.2 (by simp)
theorem kind_1 (m : Nat) : kindB 1 m = (((inN m 8).length : Int) == 1) := by
  unfold kindB
  rw [if_neg (by decide), if_pos rfl]
  exact Bool.eq_iff_iff.2 (by simp; omega)
theorem kind_2 (m : Nat) : kindB 2 m = decide (0 < (inN m 8).length) := by
  unfold kindB
  rw [if_neg (by decide), if_neg (by decide), if_pos (.inl rfl)]
theorem kind_3 (m : Nat) : kindB 3 m = decide (0 < (inN m 8).length) := by
  unfold kindB
  rw [if_neg (by decide), if_neg (by decide), if_pos (.inr rfl)]
theorem kind_4 {k : Nat} (m : Nat) (h : 4 ≤ k) : kindB k m = false := by
  unfold kindB
  rw [if_neg (by omega), if_neg (by omega), if_neg (by omega)]
theorem load_u8 {W : World} {p : Addr} {x : Int} (h : W.cell? p = some (.int .u8 x)) : (loadVar 5 p).run Try.prog W = .ok (.int .u8 x) W := run_loadVar_cell (by intro w; kernel_rfl) h
theorem load_i64 {W : World} {p : Addr} {x : Int} (h : W.cell? p = some (.int .i64 x)) : (loadVar 3 p).run Try.prog W = .ok (.int .i64 x) W := run_loadVar_cell (by intro w; kernel_rfl) h
set_option maxRecDepth 100000 in
set_option maxHeartbeats 8000000 in
theorem lmay_any (A : Array Value) (g : Nat → Int) (k m : Nat) (hk : k ≤ 255) (hm : m ≤ 255) (w : World) (hA : Cfg A g) :
    Calls Try.prog 6 #[.agg A, polV k m] w fun e w' => e = .returned (.bool (mayP g k m)) ∧ Below w.heap.size w w' := by
  have HC0 := Lib.hid (cpb_new w hA k m)
  have HA := Lib.hid hA
  cases hmb : mayB g with
  | false =>
    have HMB := Lib.hid hmb
    have HF := Lib.hid (show mayP g k m = false from by unfold mayP; rw [hmb]; rfl)
    clear hA hmb
    go_enter Try.func6, Try.ntmps6
    go_wp2_with (fail)
    generalize (w.alloc (.cells A 26)).alloc (.cells #[.int .u8 (k : Int), .int .u8 (m : Int)] 29) = wb at *
    obtain ⟨l0, l1⟩ := HC0.out.loads
    have L0 := Lib.hid l0
    clear l0 l1
    generalize hpb : w.heap.size + 1 = pb at *
    refine wp_region_lex (Kept wb.heap.size wb) [(0, false), (1, true), (2, false), (3, false), (4, false), (5, false), (7, false), (8, false), (6, true), (9, false), (10, false)] (by kernel_rfl) (by kernel_rfl) rfl (by kernel_rfl) (Below.refl _ wb).drew ?_
    intro W0 hK0
    have HK0 := Lib.hid hK0
    clear hK0
    refine lexH_load rfl rfl _ _ rfl rfl L0.out ?_
    simp only [List.getElem_toArray, List.getElem_cons_zero, Act.put, List.setIfInBounds_toArray, List.set_cons_zero, List.set_cons_succ]
    refine lexH_call 15 #[.agg A] rfl rfl ?_ ?_
    focus (go_simp; done)
    refine (may_any A g _ HA.out).mono ?_
    rintro e W1 ⟨rfl, hb1⟩
    have HK1 := Lib.hid (HK0.out.call (Nat.le_refl _) hb1)
    rw [HMB.out]
    refine ⟨_, rfl, HK1.out, ?_⟩
    clear hb1 HK0
    simp only [List.getElem_toArray, List.getElem_cons_succ, List.getElem_cons_zero, Act.put, List.setIfInBounds_toArray, List.set_cons_zero, List.set_cons_succ]
    refine lexH_yieldE rfl rfl ?_
    apply Exists.intro
    refine ⟨fun W hW => ?_, ?_⟩
    focus (go_simp; exact rfl)
    simp only [List.getElem_toArray, List.getElem_cons_succ, List.getElem_cons_zero, Act.put, List.setIfInBounds_toArray, List.set_cons_zero, List.set_cons_succ]
    refine lexH_yieldE rfl rfl ?_
    apply Exists.intro
    refine ⟨fun W hW => ?_, ?_⟩
    focus (go_simp; exact rfl)
    simp only [List.getElem_toArray, List.getElem_cons_succ, List.getElem_cons_zero, Act.put, List.setIfInBounds_toArray, List.set_cons_zero, List.set_cons_succ]
    refine lexH_skip rfl rfl ?_
    simp only [List.getElem_toArray, List.getElem_cons_succ, List.getElem_cons_zero, Act.put, List.setIfInBounds_toArray, List.set_cons_zero, List.set_cons_succ]
    refine lexH_skip rfl rfl ?_
    simp only [List.getElem_toArray, List.getElem_cons_succ, List.getElem_cons_zero, Act.put, List.setIfInBounds_toArray, List.set_cons_zero, List.set_cons_succ]
    refine lexH_skip rfl rfl ?_
    simp only [List.getElem_toArray, List.getElem_cons_succ, List.getElem_cons_zero, Act.put, List.setIfInBounds_toArray, List.set_cons_zero, List.set_cons_succ]
    refine lexH_skip rfl rfl ?_
    simp only [List.getElem_toArray, List.getElem_cons_succ, List.getElem_cons_zero, Act.put, List.setIfInBounds_toArray, List.set_cons_zero, List.set_cons_succ]
    refine lexH_pass rfl rfl HK1.out ?_
    simp only [List.getElem_toArray, List.getElem_cons_succ, List.getElem_cons_zero, Act.put, List.setIfInBounds_toArray, List.set_cons_zero, List.set_cons_succ]
    refine lexH_skip rfl rfl ?_
    simp only [List.getElem_toArray, List.getElem_cons_succ, List.getElem_cons_zero, Act.put, List.setIfInBounds_toArray, List.set_cons_zero, List.set_cons_succ]
    refine lexH_yieldE rfl rfl ?_
    apply Exists.intro
    refine ⟨fun W hW => ?_, ?_⟩
    focus (go_simp; exact rfl)
    simp only [List.getElem_toArray, List.getElem_cons_succ, List.getElem_cons_zero, Act.put, List.setIfInBounds_toArray, List.set_cons_zero, List.set_cons_succ]
    refine lexH_nil ?_
    go_wp2_with (fail)
    go_ret
    rw [HF.out]
    exact ⟨rfl, (HC0.out.bel).trans (HK1.out.below.mono HC0.out.bel.size)⟩
  | true =>
    have HMB := Lib.hid hmb
    have G := (good_iff g).1 hmb
    obtain ⟨n, hn⟩ : ∃ n : Nat, g 0 = n := ⟨(g 0).toNat, by have := G.n1; omega⟩
    have h8 : n ≤ 8 := by have := G.n2; omega
    have HFit := Lib.hid (len_fits hm hn h8)
    have HL8 := Lib.hid (fun W => len8_any m hm W)
    have HO8 := Lib.hid (fun W => ones8_any m hm W)
    have HMK := Lib.hid (fun h2 => mayP_kind (g := g) (k := k) (m := m) hmb h2)
    have HN := Lib.hid hn
    have HML := Lib.hid hm
    clear hA hmb G hn hm
    generalize Lib.bitLen m = bl at *
    go_enter Try.func6, Try.ntmps6
    go_wp2_with (fail)
    generalize (w.alloc (.cells A 26)).alloc (.cells #[.int .u8 (k : Int), .int .u8 (m : Int)] 29) = wb at *
    have L0 := Lib.hid HC0.out.loads.1
    have L1 := Lib.hid (fun U (hU : Kept wb.heap.size wb U) => load_u8 (HC0.out.later hU.below).k1)
    have L2 := Lib.hid (fun U (hU : Kept wb.heap.size wb U) => load_i64 ((HC0.out.later hU.below).cfg.cell 0 (by decide)))
    rw [HN.out] at L2
    generalize hpb : w.heap.size + 1 = pb at *
    refine wp_region_lex (Kept wb.heap.size wb) [(0, false), (1, true), (2, false), (3, false), (4, false), (5, false), (7, false), (8, false), (6, true), (9, false), (10, false)] (by kernel_rfl) (by kernel_rfl) rfl (by kernel_rfl) (Below.refl _ wb).drew ?_
    intro W0 hK0
    have HK0 := Lib.hid hK0
    clear hK0
    refine lexH_load rfl rfl _ _ rfl rfl L0.out ?_
    simp only [List.getElem_toArray, List.getElem_cons_zero, Act.put, List.setIfInBounds_toArray, List.set_cons_zero, List.set_cons_succ]
    refine lexH_call 15 #[.agg A] rfl rfl ?_ ?_
    focus (go_simp; done)
    refine (may_any A g _ HA.out).mono ?_
    rintro e W1 ⟨rfl, hb1⟩
    have HK1 := Lib.hid (HK0.out.call (Nat.le_refl _) hb1)
    rw [HMB.out]
    refine ⟨_, rfl, HK1.out, ?_⟩
    clear hb1 HK0
    simp only [List.getElem_toArray, List.getElem_cons_succ, List.getElem_cons_zero, Act.put, List.setIfInBounds_toArray, List.set_cons_zero, List.set_cons_succ]
    refine lexH_yieldE rfl rfl ?_
    apply Exists.intro
    refine ⟨fun W hW => ?_, ?_⟩
    focus (go_simp; exact rfl)
    simp only [List.getElem_toArray, List.getElem_cons_succ, List.getElem_cons_zero, Act.put, List.setIfInBounds_toArray, List.set_cons_zero, List.set_cons_succ]
    refine lexH_yieldE rfl rfl ?_
    apply Exists.intro
    refine ⟨fun W hW => ?_, ?_⟩
    focus (go_simp; exact rfl)
    simp only [List.getElem_toArray, List.getElem_cons_succ, List.getElem_cons_zero, Act.put, List.setIfInBounds_toArray, List.set_cons_zero, List.set_cons_succ]
    refine lexH_yieldE rfl rfl ?_
    apply Exists.intro
    refine ⟨fun W hW => ?_, ?_⟩
    focus (go_simp; exact rfl)
    simp only [List.getElem_toArray, List.getElem_cons_succ, List.getElem_cons_zero, Act.put, List.setIfInBounds_toArray, List.set_cons_zero, List.set_cons_succ]
    refine lexH_load rfl rfl _ _ rfl rfl L1.out ?_
    simp only [List.getElem_toArray, List.getElem_cons_succ, List.getElem_cons_zero, Act.put, List.setIfInBounds_toArray, List.set_cons_zero, List.set_cons_succ]
    refine lexH_yieldE rfl rfl ?_
    apply Exists.intro
    refine ⟨fun W hW => ?_, ?_⟩
    focus (go_simp; exact rfl)
    simp only [List.getElem_toArray, List.getElem_cons_succ, List.getElem_cons_zero, Act.put, List.setIfInBounds_toArray, List.set_cons_zero, List.set_cons_succ]
    refine lexH_load rfl rfl _ _ rfl rfl L2.out ?_
    simp only [List.getElem_toArray, List.getElem_cons_succ, List.getElem_cons_zero, Act.put, List.setIfInBounds_toArray, List.set_cons_zero, List.set_cons_succ]
    refine lexH_call 16 #[.int .u8 (m : Int)] rfl rfl ?_ ?_
    focus (go_simp; done)
    refine (HL8.out _).mono ?_
    rintro e W2 ⟨rfl, rfl⟩
    refine ⟨_, rfl, HK1.out, ?_⟩
    simp only [List.getElem_toArray, List.getElem_cons_succ, List.getElem_cons_zero, Act.put, List.setIfInBounds_toArray, List.set_cons_zero, List.set_cons_succ]
    refine lexH_yieldE rfl rfl ?_
    apply Exists.intro
    refine ⟨fun W hW => ?_, ?_⟩
    focus (go_simp; exact rfl)
    simp only [List.getElem_toArray, List.getElem_cons_succ, List.getElem_cons_zero, Act.put, List.setIfInBounds_toArray, List.set_cons_zero, List.set_cons_succ]
    refine lexH_yieldE rfl rfl ?_
    apply Exists.intro
    refine ⟨fun W hW => ?_, ?_⟩
    focus (go_simp; exact rfl)
    simp only [List.getElem_toArray, List.getElem_cons_succ, List.getElem_cons_zero, Act.put, List.setIfInBounds_toArray, List.set_cons_zero, List.set_cons_succ]
    refine lexH_nil ?_
    have HC1 := Lib.hid (HC0.out.later HK1.out.below)
    clear HK1 HC0 L0 L1 L2
    by_cases hbl : bl ≤ n
    · have hblI : ¬ ((n : Int) < (bl : Int)) := by omega
      have hall : (inN m 8).all (fun i => decide ((i : Int) < g 0)) = true := by rw [HFit.out]; exact decide_eq_true hbl
      have HF := Lib.hid (HMK.out hall)
      clear hall HMK
      have p0 := HC1.out.k0
      have p1 := HC1.out.k1
      rw [hpb] at p0 p1
      go_wp2_with (fail)
      refine (HO8.out _).mono ?_
      rintro e W2 ⟨rfl, rfl⟩
      clear HO8 HL8 HFit
      have HK0 := Lib.hid (kind_0 m)
      have HK1 := Lib.hid (kind_1 m)
      have HK2 := Lib.hid (kind_2 m)
      have HK3 := Lib.hid (kind_3 m)
      have HK4 := Lib.hid (fun h => kind_4 (k := k) m h)
      generalize (inN m 8).length = many at *
      rcases (show k = 0 ∨ k = 1 ∨ k = 2 ∨ k = 3 ∨ 4 ≤ k by omega) with rfl | rfl | rfl | rfl | h4
      · go_wp2_with (fail)
        go_ret
        rw [HF.out, HK0.out]
        exact ⟨rfl, HC1.out.bel⟩
      · go_wp2_with (fail)
        go_ret
        rw [HF.out, HK1.out]
        exact ⟨rfl, HC1.out.bel⟩
      · go_wp2_with (fail)
        go_ret
        rw [HF.out, HK2.out]
        exact ⟨rfl, HC1.out.bel⟩
      · go_wp2_with (fail)
        go_ret
        rw [HF.out, HK3.out]
        exact ⟨rfl, HC1.out.bel⟩
      · have e0 : ((k : Int) == 0) = false := by simp; omega
        have e1 : ((k : Int) == 1) = false := by simp; omega
        have e2 : ((k : Int) == 2) = false := by simp; omega
        have e3 : ((k : Int) == 3) = false := by simp; omega
        have f0 : ¬ (k : Int) = 0 := by omega
        have f1 : ¬ (k : Int) = 1 := by omega
        have f2 : ¬ (k : Int) = 2 := by omega
        have f3 : ¬ (k : Int) = 3 := by omega
        go_wp2_with (fail)
        go_ret
        rw [HF.out, HK4.out h4]
        exact ⟨rfl, HC1.out.bel⟩
    · have hblI : ((n : Int) < (bl : Int)) := by omega
      have HF := Lib.hid (show mayP g k m = false from by
        unfold mayP
        rw [HFit.out, decide_eq_false hbl, Bool.false_and, Bool.and_false])
      go_wp2_with (fail)
      go_ret
      rw [HF.out]
      exact ⟨rfl, HC1.out.bel⟩
end
section
open Go.RowKit Go
attribute [local go_sem] Oper.semAt_some

set_option maxRecDepth 100000 in
set_option maxHeartbeats 4000000 in
theorem lallow_any (k m : Nat) (hk : k ≤ 255) (hm : m ≤ 255) (n : Int) (w : World) : Calls Try.prog 9 #[polV k m, .int .i64 n] w fun e w' => e = .returned (.bool (allowP k m n)) ∧ Below w.heap.size w w' := by
  have HB := Lib.hid (show Below w.heap.size w (w.alloc (.cells #[.int .u8 (k : Int), .int .u8 (m : Int)] 29)) from (Below.refl _ _).alloc (Nat.le_refl _) _)
  have k0 : (w.alloc (.cells #[.int .u8 (k : Int), .int .u8 (m : Int)] 29)).cell? ⟨w.heap.size, 0, none⟩ = some (.int .u8 (k : Int)) := by simp [go_sem]
  have k1 : (w.alloc (.cells #[.int .u8 (k : Int), .int .u8 (m : Int)] 29)).cell? ⟨w.heap.size, 1, none⟩ = some (.int .u8 (m : Int)) := by simp [go_sem]
  unfold allowP
  by_cases h0 : 0 ≤ n
  · by_cases h7 : n ≤ 7
    · rw [decide_eq_true h0, decide_eq_true h7]
      have h8 : n < 8 := by omega
      by_cases hk2 : k = 2
      · subst hk2
        obtain ⟨x, rfl⟩ : ∃ x : Nat, n = x := ⟨n.toNat, by omega⟩
        rw [show decide ((2 : Nat) ≠ 2) = false from rfl, Bool.true_and, Bool.true_and, Bool.false_or, Int.toNat_natCast]
        have HH := Lib.hid (lhas_any m x hm (by omega) (w.alloc (.cells #[.int .u8 ((2 : Nat) : Int), .int .u8 (m : Int)] 29)))
        generalize hasM m x = hb at *
        go_enter Try.func9, Try.ntmps9
        go_wp2_with (fail)
        refine HH.out.mono ?_
        rintro e w1 ⟨rfl, rfl⟩
        go_wp2_with (fail)
        go_ret
        exact ⟨rfl, HB.out⟩
      · rw [decide_eq_true hk2, Bool.true_and, Bool.true_and, Bool.true_or]
        have hkb : ((k : Int) != 2) = true := by simp; omega
        have hkc : ((k : Int) == 2) = false := by simp; omega
        have hkd : ¬ (k : Int) = 2 := by omega
        go_enter Try.func9, Try.ntmps9
        go_wp2_with (fail)
        go_ret
        exact ⟨rfl, HB.out⟩
    · rw [decide_eq_false h7, Bool.false_and, Bool.and_false]
      have h8 : ¬ n < 8 := by omega
      go_enter Try.func9, Try.ntmps9
      go_wp2_with (fail)
      go_ret
      exact ⟨rfl, HB.out⟩
  · rw [decide_eq_false h0, Bool.false_and]
    go_enter Try.func9, Try.ntmps9
    go_wp2_with (fail)
    go_ret
    exact ⟨rfl, HB.out⟩
end
section
open Go.RowKit Go
attribute [local go_sem] Oper.semAt_some

/-- slices.Sort of numbers of the call's own. -/
def SortOk : Prop := ∀ (w : World) (base : Nat) (v : Value) (l : List Nat), w.ownsRow base 3 1 v l.length (lisV l) → l.length ≤ 1000 →
  Calls Try.prog 39 #[v] w fun e w' => e = .returned (.tuple #[]) ∧ w'.ownsRow base 3 1 v l.length (((l.map fun x : Nat => (x : Int)).mergeSort fun x y => decide (x ≤ y)).map (.int .i64)) ∧ Only (fun k => v.ownBlock = some k) w w'
/-- The numbers of a list as values. -/
def encA (l : List Nat) (j : Nat) : Value := .int .i64 ((l[j]! : Nat) : Int)
/-- The turns, sorted, in a block of their own. -/
structure TurnsR (B : Nat) (w : World) (g cap : Nat) (tl : List Nat) (W : World) : Prop where
  row : RowAt W g tl.length (encA tl)
  base : B ≤ g
  le : tl.length ≤ cap
  bel : Below B w W
theorem lisV_map (l : List Nat) : lisV l = (l.map fun x : Nat => (x : Int)).map (.int .i64) := by
  unfold lisV
  rw [List.map_map]
  rfl
theorem lisV_get {l : List Nat} {i : Nat} (h : i < l.length) : (lisV l)[i]? = some (.int .i64 ((l[i]! : Nat) : Int)) := by
  unfold lisV
  rw [List.getElem?_map, List.getElem?_eq_getElem h, getElem!_pos l i h]
  rfl
theorem turns_own {B : Nat} {w W : World} {u : Value} {tl : List Nat} (h : W.ownsRow B 3 1 u tl.length (lisV tl)) (hb : Below B w W) (h0 : 0 < tl.length) : ∃ g cap, u = .slice (some ⟨g, 0, none⟩) tl.length cap ∧ TurnsR B w g cap tl W := by
  obtain ⟨g, cap, rfl, hB, hg, hc, R⟩ := RowAt.of_owns h (encA tl) (fun i hi => lisV_get (by omega)) (by
    intro e
    subst e
    obtain ⟨_, _, e, _⟩ := owns_slice h
    injection e with _ e
    omega)
  rw [Nat.mul_one] at R
  exact ⟨g, cap, rfl, R, hB, hc, hb⟩
theorem own_ge {w : World} {base n size : Nat} {T : TypeId} {v : Value} {xs : List Value} (h : w.ownsRow base T size v n xs) (k : Nat) (hk : v.ownBlock = some k) : base ≤ k := by
  obtain ⟨_, ⟨rfl, _⟩ | ⟨g, cap, cur, rfl, hb, _⟩⟩ := h
  · cases hk
  · have e : g = k := by simpa [Value.ownBlock] using hk
    omega
theorem drop_get {l : List Nat} {s j : Nat} (h : s + j < l.length) : (l.drop s)[j]! = l[s + j]! := by
  rw [getElem!_pos (l.drop s) j (by rw [List.length_drop]; omega), getElem!_pos l (s + j) h, List.getElem_drop]
theorem take_get {l : List Nat} {s j : Nat} (h : j < s) (h2 : s ≤ l.length) : (l.take s)[j]! = l[j]! := by
  rw [getElem!_pos (l.take s) j (by rw [List.length_take]; omega), getElem!_pos l j (by omega), List.getElem_take]
theorem row_made {w : World} {B g n : Nat} (h : w.ownsRow B 3 1 (.slice (some ⟨g, 0, none⟩) n n) n (madeCells #[Value.int .i64 0] (n * 1)).toList) : RowAt w g n (fun _ => Value.int .i64 0) := by
  obtain ⟨g2, cap, e, _, _, _, R⟩ := RowAt.of_owns h (fun _ => Value.int .i64 0) (fun i hi => by rw [made_at _ _ _ hi]; simp [Nat.mod_one]) (by intro e; cases e)
  injection e with e _ _
  injection e with e
  injection e with e
  subst e
  rw [Nat.mul_one] at R
  exact R
theorem sizeInt1 : (Try.prog.info? 3).map (·.size) = some 1 := by kernel_rfl
theorem sizeIntR (w : World) : (sizeOf 3).run Try.prog w = .ok 1 w := by kernel_rfl
theorem own_cells {W : World} {B : Nat} {u : Value} {l : List Nat} (h : W.ownsRow B 3 1 u l.length (lisV l)) : ∃ a c, u = .slice a l.length c ∧ (0 < l.length → ∃ g, a = some ⟨g, 0, none⟩ ∧ B ≤ g ∧ ∀ j, j < l.length → W.cell? ⟨g, j, none⟩ = some (encA l j)) := by
  obtain ⟨a, c, rfl, h2⟩ := owns_slice h
  refine ⟨a, c, rfl, fun h0 => ?_⟩
  obtain ⟨g, rfl, hB, _, A, t, hg, hA⟩ := h2 h0
  exact ⟨g, rfl, hB, fun j hj => by rw [cell_of_row _ _ _ _ _ _ hg, hA j (by omega)]; exact lisV_get hj⟩
section
variable (hs : SortOk)
include hs
set_option maxRecDepth 100000 in
set_option maxHeartbeats 8000000 in
theorem inter_any (g : Nat → Int) (loc n m p : Nat) (hn8 : n ≤ 8) (hm : m ≤ 255) (hT : 0 < (inN m n).length) (hp : (p : Int) ≤ 9223372036854775807) (w : World) (v : Value) (hv : LstAt w v (nearN g loc n)) :
    Calls Try.prog 24 #[v, .int .u8 (m : Int), .int .i64 (p : Int)] w fun e w' => ∃ u, e = .returned u ∧ LstAt w' u (rotN (inN m n) p ++ (nearN g loc n).filter (fun x => !hasM m x)) ∧ Below w.heap.size w w' := by
  have HB0 := Lib.hid (show Below w.heap.size w (w.alloc (.cells #[.int .u8 (m : Int)] 5)) from (Below.refl _ _).alloc (Nat.le_refl _) _)
  have HM0 := Lib.hid (show (w.alloc (.cells #[.int .u8 (m : Int)] 5)).cell? ⟨w.heap.size, 0, none⟩ = some (.int .u8 (m : Int)) by simp [go_sem])
  have h7 : ∀ x ∈ nearN g loc n, x ≤ 7 := fun x hx => by have := (mem_nearN hn8).1 hx; omega
  have hln : (nearN g loc n).length = n := nearN_len g loc n
  obtain ⟨va, vc, rfl, hv⟩ := hv
  rw [hln]
  have HV := Lib.hid (show LstAt w (.slice va n vc) (nearN g loc n) from ⟨va, vc, by rw [hln], hv⟩)
  have HTU := Lib.hid (turns_eq (g := g) (k := loc) (mask := m) hn8)
  have HKL := Lib.hid (kept_len (g := g) (k := loc) (mask := m) hn8)
  have HRL := Lib.hid (rest_len (g := g) (k := loc) (mask := m) hn8)
  have hTn : (inN m n).length ≤ n := inN_len m n
  have HSP := Lib.hid (rotN_split (inN m n) p)
  have H7 := Lib.hid h7
  have HLN := Lib.hid hln
  clear hv h7 hln
  generalize nearN g loc n = L at *
  generalize inN m n = tl at *
  go_enter Try.func24, Try.ntmps24
  go_wp2_with (fail)
  generalize w.alloc (.cells #[.int .u8 (m : Int)] 5) = w0 at *
  refine (sift_any 38 (some ⟨w.heap.size, 0, none⟩) (hasM m) w0 (enters_of Try.func38 (by kernel_rfl) rfl) (fun W x hx hb => inter1_any m x _ hm hx W (by rw [hb.cell (World.block_lt_of_cell? _ _ HM0.out)]; exact HM0.out)) _ L (HV.out.later HB0.out) H7.out (by rw [HLN.out]; exact hn8)).mono ?_
  rintro e w1 ⟨u1, rfl, ho1, hb1⟩
  have HO1 := Lib.hid ho1
  have HB1 := Lib.hid (HB0.out.trans (hb1.mono HB0.out.size))
  have HM1 := Lib.hid (show w1.cell? ⟨w.heap.size, 0, none⟩ = some (.int .u8 (m : Int)) by rw [hb1.cell (World.block_lt_of_cell? _ _ HM0.out)]; exact HM0.out)
  have HC1 := Lib.hid hb1
  clear ho1 hb1
  go_wp2_with (fail)
  refine (hs w1 w0.heap.size u1 _ HO1.out (Nat.le_trans (List.length_filter_le _ _) (by rw [HLN.out]; omega))).mono ?_
  rintro e w2 ⟨rfl, ho2, hk2⟩
  rw [HTU.out, HKL.out, ← lisV_map] at ho2
  have hb2 : Below w0.heap.size w0 w2 := hk2.below HC1.out HC1.out.size (own_ge HO1.out)
  obtain ⟨gb, cap, rfl, T2⟩ := turns_own ho2 hb2 hT
  have HT2 := Lib.hid T2
  clear ho2 hb2 hk2 T2 HO1 HC1
  have hT0 : ¬ (tl.length : Int) = 0 := by omega
  obtain ⟨i0, hi0, hz0, hz1, hz2⟩ := info_parts infoSift
  have es : (p : Int) % (tl.length : Int) = ((p % tl.length : Nat) : Int) := by simp
  have hsl : p % tl.length < tl.length := Nat.mod_lt _ hT
  go_wp2_with (at_make; rw [es]; generalize p % tl.length = s at *; refine wpList_make_full _ rfl _ _ 31 rfl w2.heap.size 3 i0 (.int .i64 0) 1 Try.underlying31 hi0 hz0 hz1 .i64 .i64 _ _ n rfl rfl rfl rfl ?c3 ?c4 (Nat.le_refl _) ?_)
  case c3 => rw [hz2]; omega
  case c4 => unfold maxLen; omega
  intro w3 hown hg
  clear es hi0 hz0 hz1 hz2
  rw [← Nat.mul_one n] at hown
  have R0 : RowAt w3 w2.heap.size n (fun _ => Value.int .i64 0) := row_made (by simpa using hown)
  have hb3 : Below w2.heap.size w2 w3 := (Below.refl _ _).grown hg (Nat.le_refl _) (fun k h => by cases h)
  have hgb : gb < w2.heap.size := HT2.out.row.lt
  have h02 : w0.heap.size ≤ w2.heap.size := HT2.out.bel.size
  have HT3 := Lib.hid (show TurnsR w0.heap.size w0 gb cap tl w3 from ⟨HT2.out.row.later hb3, HT2.out.base, HT2.out.le, HT2.out.bel.trans (hb3.mono h02)⟩)
  have HTC := Lib.hid HT3.out.le
  have hcs : ¬ cap = s := by have := HT2.out.le; omega
  have h02s : w0.heap.size ≤ w3.heap.size := HT3.out.bel.size
  clear hown hg hb3 HT2 HM1 HB1
  generalize w2.heap.size = g2 at *
  have hdl : (tl.drop s).length = tl.length - s := List.length_drop
  have htl : (tl.take s).length = s := by rw [List.length_take]; omega
  obtain ⟨k1, hk1⟩ : ∃ k1, k1 = tl.length - s := ⟨_, rfl⟩
  have HK1 := Lib.hid hk1
  rw [← hk1] at hdl
  have hks : k1 + s = tl.length := by omega
  clear hk1
  go_wp2_with (rw [← HK1.out]; refine wpList_copy_row rfl (.tmp 23) (.tmp 26) 31 31 rfl 3 Try.underlying31 sizeInt1 _ _ n n k1 (cap - s) rfl rfl g2 0 n k1 _ (encA (tl.drop s)) R0 (Nat.min_eq_left (by omega)).symm (fun _ => ⟨rfl, _, rfl, fun j hj => ?_⟩) (by omega) (fun j _ => rfl) ?_)
  focus (rw [Addr.add_lit]; unfold encA; rw [drop_get (by omega)]; exact HT3.out.row.cell (s + j) (by omega))
  intro w4 R1 ho1 hz1
  have HC4 := Lib.hid (ho1.below HT3.out.bel h02s (fun k hk => by omega))
  have HT4 := Lib.hid (HT3.out.row.only ho1 (by omega))
  have HR1 := Lib.hid R1
  clear R0 R1 ho1 HT3
  go_wp2_with (fail)
  have hnk : k1 ≤ n := by omega
  obtain ⟨ad1, had1, sl1⟩ : ∃ ad : Addr, (n ≠ k1 → ad = ⟨g2, k1, none⟩) ∧ ∀ W, (Instr.sliceAt 31 (.slice (some ⟨g2, 0, none⟩) n n) (some (.int .i64 (k1 : Int))) none none).run Try.prog W = .ok (.slice (some ad) (n - k1) (n - k1)) W :=
    ⟨_, fun h => by rw [if_neg h, Nat.zero_add, Nat.mul_one], fun W => run_sub_from (P := Try.prog) Try.underlying31 sizeIntR g2 0 n n k1 hnk W⟩
  have SL1 := Lib.hid sl1
  have HAD1 := Lib.hid had1
  clear sl1 had1
  have SL2 := Lib.hid (fun W => run_sub_to (P := Try.prog) Try.underlying31 sizeIntR gb 0 tl.length cap s (by have := HTC.out; omega) W)
  refine wp_region_lex1 (fun _ => True) [(0, false), (1, false), (2, false), (3, false), (4, false), (5, false), (6, false), (7, true), (8, false), (9, false)] (by kernel_rfl) (by kernel_rfl) rfl (by kernel_rfl) trivial ?_
  intro W0 hW0 _
  have hbd : Below w4.heap.size w4 W0 := by subst hW0; exact below_drewN (Below.refl _ _) 1
  have hz4 : w0.heap.size ≤ w4.heap.size := HC4.out.size
  have HCd := Lib.hid (HC4.out.trans (hbd.mono hz4))
  have HRd := Lib.hid (HR1.out.later hbd)
  have HTd := Lib.hid (HT4.out.later hbd)
  clear hbd hW0 HC4 HR1 HT4
  refine lexH_yieldE rfl rfl ?_
  apply Exists.intro
  refine ⟨fun W hW => ?_, ?_⟩
  focus (go_simp; exact rfl)
  simp only [List.getElem_toArray, List.getElem_cons_zero, Act.put, List.setIfInBounds_toArray, List.set_cons_zero, List.set_cons_succ]
  refine lexH_yieldE rfl rfl ?_
  apply Exists.intro
  refine ⟨fun W hW => ?_, ?_⟩
  focus (go_simp; exact rfl)
  simp only [List.getElem_toArray, List.getElem_cons_succ, List.getElem_cons_zero, Act.put, List.setIfInBounds_toArray, List.set_cons_zero, List.set_cons_succ]
  refine lexH_yieldE rfl rfl ?_
  apply Exists.intro
  refine ⟨fun W hW => ?_, ?_⟩
  focus (go_simp; exact rfl)
  simp only [List.getElem_toArray, List.getElem_cons_succ, List.getElem_cons_zero, Act.put, List.setIfInBounds_toArray, List.set_cons_zero, List.set_cons_succ]
  refine lexH_slice rfl rfl _ _ _ _ _ rfl (fun W _ => SL1.out W) ?_
  simp only [List.getElem_toArray, List.getElem_cons_succ, List.getElem_cons_zero, Act.put, List.setIfInBounds_toArray, List.set_cons_zero, List.set_cons_succ]
  refine lexH_yieldE rfl rfl ?_
  apply Exists.intro
  refine ⟨fun W hW => ?_, ?_⟩
  focus (go_simp; exact rfl)
  simp only [List.getElem_toArray, List.getElem_cons_succ, List.getElem_cons_zero, Act.put, List.setIfInBounds_toArray, List.set_cons_zero, List.set_cons_succ]
  refine lexH_yieldE rfl rfl ?_
  apply Exists.intro
  refine ⟨fun W hW => ?_, ?_⟩
  focus (go_simp; exact rfl)
  simp only [List.getElem_toArray, List.getElem_cons_succ, List.getElem_cons_zero, Act.put, List.setIfInBounds_toArray, List.set_cons_zero, List.set_cons_succ]
  refine lexH_slice rfl rfl _ _ _ _ _ rfl (fun W _ => SL2.out W) ?_
  simp only [List.getElem_toArray, List.getElem_cons_succ, List.getElem_cons_zero, Act.put, List.setIfInBounds_toArray, List.set_cons_zero, List.set_cons_succ]
  refine lexH_copy rfl rfl (.tmp 31) (.tmp 34) 31 31 rfl 3 Try.underlying31 sizeInt1 _ _ (n - k1) (n - k1) s cap rfl rfl g2 k1 n s _ (encA (tl.take s)) HRd.out (Nat.min_eq_left (by omega)).symm (fun h => ⟨congrArg some (HAD1.out (by omega)), _, rfl, fun j hj => ?_⟩) (by omega) (fun j _ => rfl) ?_
  focus (rw [Addr.add_lit, Nat.zero_add]; unfold encA; rw [take_get hj (by omega)]; exact HTd.out.cell j (by omega))
  intro w5 R2 ho2 hz2
  have HC5 := Lib.hid (ho2.below HCd.out HCd.out.size (fun k hk => by omega))
  have HR2 := Lib.hid R2
  clear R2 ho2 HTd HRd HCd
  refine ⟨trivial, ?_⟩
  simp only [List.getElem_toArray, List.getElem_cons_succ, List.getElem_cons_zero, Act.put, List.setIfInBounds_toArray, List.set_cons_zero, List.set_cons_succ]
  refine lexH_yield rfl rfl (v := .int .i64 (tl.length : Int)) (fun W _ => by go_simp; rw [IntKind.wrap_i64]; omega) ?_
  simp only [List.getElem_toArray, List.getElem_cons_succ, List.getElem_cons_zero, Act.put, List.setIfInBounds_toArray, List.set_cons_zero, List.set_cons_succ]
  refine lexH_yieldE rfl rfl ?_
  apply Exists.intro
  refine ⟨fun W hW => ?_, ?_⟩
  focus (go_simp; exact rfl)
  simp only [List.getElem_toArray, List.getElem_cons_succ, List.getElem_cons_zero, Act.put, List.setIfInBounds_toArray, List.set_cons_zero, List.set_cons_succ]
  refine lexH_nil ?_
  go_wp2_with (fail)
  obtain ⟨ad2, had2, sl3⟩ : ∃ ad : Addr, (n ≠ tl.length → ad = ⟨g2, tl.length, none⟩) ∧ ∀ W, (Instr.sliceAt 31 (.slice (some ⟨g2, 0, none⟩) n n) (some (.int .i64 (tl.length : Int))) none none).run Try.prog W = .ok (.slice (some ad) (n - tl.length) (n - tl.length)) W :=
    ⟨_, fun h => by rw [if_neg h, Nat.zero_add, Nat.mul_one], fun W => run_sub_from (P := Try.prog) Try.underlying31 sizeIntR g2 0 n n tl.length hTn W⟩
  have SL3 := Lib.hid sl3
  have HAD2 := Lib.hid had2
  clear sl3 had2 SL1 SL2 HAD1
  refine wp_region_lex1 (fun _ => True) [(0, false), (1, false), (2, false), (3, false), (4, false), (5, true), (6, true)] (by kernel_rfl) (by kernel_rfl) rfl (by kernel_rfl) trivial ?_
  intro W5 hW5 _
  have hbd : Below w5.heap.size w5 W5 := by subst hW5; exact below_drewN (Below.refl _ _) 1
  have hz5 : w0.heap.size ≤ w5.heap.size := HC5.out.size
  have HCe := Lib.hid (HC5.out.trans (hbd.mono hz5))
  have HRe := Lib.hid (HR2.out.later hbd)
  clear hbd hW5 HC5 HR2
  refine lexH_yieldE rfl rfl ?_
  apply Exists.intro
  refine ⟨fun W hW => ?_, ?_⟩
  focus (go_simp; exact rfl)
  simp only [List.getElem_toArray, List.getElem_cons_zero, Act.put, List.setIfInBounds_toArray, List.set_cons_zero, List.set_cons_succ]
  refine lexH_yieldE rfl rfl ?_
  apply Exists.intro
  refine ⟨fun W hW => ?_, ?_⟩
  focus (go_simp; exact rfl)
  simp only [List.getElem_toArray, List.getElem_cons_succ, List.getElem_cons_zero, Act.put, List.setIfInBounds_toArray, List.set_cons_zero, List.set_cons_succ]
  refine lexH_slice rfl rfl _ _ _ _ _ rfl (fun W _ => SL3.out W) ?_
  simp only [List.getElem_toArray, List.getElem_cons_succ, List.getElem_cons_zero, Act.put, List.setIfInBounds_toArray, List.set_cons_zero, List.set_cons_succ]
  refine lexH_yieldE rfl rfl ?_
  apply Exists.intro
  refine ⟨fun W hW => ?_, ?_⟩
  focus (go_simp; exact rfl)
  simp only [List.getElem_toArray, List.getElem_cons_succ, List.getElem_cons_zero, Act.put, List.setIfInBounds_toArray, List.set_cons_zero, List.set_cons_succ]
  refine lexH_yieldE rfl rfl ?_
  apply Exists.intro
  refine ⟨fun W hW => ?_, ?_⟩
  focus (go_simp; exact rfl)
  simp only [List.getElem_toArray, List.getElem_cons_succ, List.getElem_cons_zero, Act.put, List.setIfInBounds_toArray, List.set_cons_zero, List.set_cons_succ]
  refine lexH_call 21 #[.slice va n vc, .func (.func 40) #[] #[.pointer (some ⟨w.heap.size, 0, none⟩)]] rfl rfl ?_ ?_
  focus (go_simp; done)
  have hme : W5.cell? ⟨w.heap.size, 0, none⟩ = some (.int .u8 (m : Int)) := by rw [HCe.out.cell (World.block_lt_of_cell? _ _ HM0.out)]; exact HM0.out
  refine (sift_any 40 (some ⟨w.heap.size, 0, none⟩) (fun x => !hasM m x) W5 (enters_of Try.func40 (by kernel_rfl) rfl) (fun W x hx hb => inter2_any m x _ hm hx W (by rw [hb.cell (World.block_lt_of_cell? _ _ hme)]; exact hme)) _ L ((HV.out.later HB0.out).later (HCe.out)) H7.out (by rw [HLN.out]; exact hn8)).mono ?_
  rintro e w6 ⟨u2, rfl, ho6, hb6⟩
  obtain ⟨av, cv, rfl, hcv⟩ := own_cells ho6
  have hz6 : w0.heap.size ≤ W5.heap.size := HCe.out.size
  have HC6 := Lib.hid (HCe.out.trans (hb6.mono hz6))
  have HR6 := Lib.hid (HRe.out.later hb6)
  have hrl := HRL.out
  refine ⟨_, rfl, trivial, ?_⟩
  simp only [List.getElem_toArray, List.getElem_cons_succ, List.getElem_cons_zero, Act.put, List.setIfInBounds_toArray, List.set_cons_zero, List.set_cons_succ]
  refine lexH_copy rfl rfl (.tmp 39) (.tmp 42) 31 31 rfl 3 Try.underlying31 sizeInt1 _ _ (n - tl.length) (n - tl.length) (L.filter (fun x => !hasM m x)).length cv rfl rfl g2 tl.length n (L.filter (fun x => !hasM m x)).length _ (encA (L.filter (fun x => !hasM m x))) HR6.out (Nat.min_eq_left (by omega)).symm (fun h => ⟨congrArg some (HAD2.out (by omega)), ?_⟩) (by omega) (fun j _ => rfl) ?_
  focus
    obtain ⟨g6, rfl, _, hc6⟩ := hcv h
    exact ⟨_, rfl, fun j hj => by rw [Addr.add_lit, Nat.zero_add]; exact hc6 j hj⟩
  intro w7 R3 ho3 hz3
  have HC7 := Lib.hid (ho3.below HC6.out HC6.out.size (fun k hk => by omega))
  have HR7 := Lib.hid R3
  clear R3 ho3 HR6 HC6 HRe HCe ho6 hb6 hcv
  refine ⟨trivial, ?_⟩
  simp only [List.getElem_toArray, List.getElem_cons_succ, List.getElem_cons_zero, Act.put, List.setIfInBounds_toArray, List.set_cons_zero, List.set_cons_succ]
  refine lexH_nil ?_
  go_wp2_with (fail)
  go_ret
  refine ⟨_, rfl, ?_, HB0.out.trans (HC7.out.mono HB0.out.size)⟩
  rw [HSP.out]
  have hlen : (tl.drop s ++ tl.take s ++ L.filter (fun x => !hasM m x)).length = n := by rw [List.length_append, List.length_append, hdl, htl]; omega
  refine ⟨some ⟨g2, 0, none⟩, n, by rw [hlen]; rfl, fun i x hi => ⟨g2, 0, rfl, ?_⟩⟩
  have hin : i < n := by have := (List.getElem?_eq_some_iff.1 hi).1; omega
  rw [Nat.zero_add, HR7.out.cell i hin, ← laid3 (fun _ => Value.int .i64 0) _ _ _ i x hi, hdl, htl, hks]
  rfl
end
end
section
open Go.RowKit Go

theorem psort_ok : SortOk := by
  intro w base v l h hl
  rw [lisV_map] at h
  have hz : (l.map fun x : Nat => (x : Int)).length = l.length := List.length_map _
  rw [← hz] at h ⊢
  rw [← hz] at hl
  generalize (l.map fun x : Nat => (x : Int)) = z at *
  clear hz
  rcases h.2 with ⟨rfl, hz⟩ | ⟨g, cap, cur, rfl, hbase, hg, r1, r2, r3, r4⟩
  · have hs : z = [] := List.eq_nil_of_length_eq_zero hz
    subst hs
    refine (AnyM.slices_Sort_int_none Try.sortF none 0 w).mono ?_
    rintro e w' ⟨rfl, rfl⟩
    exact ⟨rfl, by rw [List.mergeSort_nil]; exact h, Only.refl _ _⟩
  · have hH : Go.Sort.Holds (Value.int .i64) w g 0 z.toArray := holds_of_blockI hg (by rw [Nat.mul_one] at r4; exact r4)
    have hgl : g < w.heap.size := (Array.getElem?_eq_some_iff.1 hg).1
    refine (AnyM.slices_Sort_int Try.sortF g 0 cap z w hH hgl (by omega)).mono ?_
    rintro e w' ⟨rfl, n, os, rfl⟩
    refine ⟨rfl, ownsRow_sortedI (by rw [List.length_mergeSort]) hbase hg r1 r2 r3, (Only.of_grown (grownBy_sortedI (os := os) (n := n) _)).mono (fun k hk => ?_)⟩
    injection hk with hk
    subst hk
    simp [Value.ownBlock]
end
section
open Go.RowKit Go
attribute [local go_sem] Oper.semAt_some

theorem mayP_parts {g : Nat → Int} {k m : Nat} (h : mayP g k m = true) : mayB g = true ∧ (inN m 8).all (fun i => decide ((i : Int) < g 0)) = true ∧ kindB k m = true := by
  unfold mayP at h
  rw [Bool.and_eq_true, Bool.and_eq_true] at h
  exact h
theorem own_lst {W : World} {B : Nat} {u : Value} {l : List Nat} (h : W.ownsRow B 3 1 u l.length (lisV l)) : LstAt W u l := by
  obtain ⟨a, c, rfl, h2⟩ := own_cells h
  refine ⟨a, c, rfl, fun i x hi => ?_⟩
  obtain ⟨hl, hx⟩ := List.getElem?_eq_some_iff.1 hi
  obtain ⟨gg, rfl, _, h3⟩ := h2 (by omega)
  refine ⟨gg, 0, rfl, ?_⟩
  rw [Nat.zero_add, h3 i hl]
  unfold encA
  rw [getElem!_pos l i hl, hx]
/-- What Order leaves. -/
def OrdP (g : Nat → Int) (k m : Nat) (loc page : Int) (w : World) (e : Ending) (w' : World) : Prop := ∃ v, e = .returned (.tuple #[v, .int .i64 (ordE g k m loc page)]) ∧ LstAt w' v (ordQ g k m loc page) ∧ Below w.heap.size w w'
section
variable (hs : SortOk)
include hs
set_option maxRecDepth 100000 in
set_option maxHeartbeats 8000000 in
theorem lorder_any (A : Array Value) (g : Nat → Int) (k m : Nat) (hk : k ≤ 255) (hm : m ≤ 255) (loc page : Int) (hloc : InZ loc) (hpage : InZ page) (w : World) (hA : Cfg A g) :
    Calls Try.prog 8 #[.agg A, polV k m, .int .i64 loc, .int .i64 page] w (OrdP g k m loc page w) := by
  have HC0 := Lib.hid (cpb_new w hA k m)
  have HA := Lib.hid hA
  have HMY := Lib.hid (fun W => lmay_any A g k m hk hm W hA)
  clear hA
  cases hmp : mayP g k m with
  | false =>
    have HE := Lib.hid (show ordE g k m loc page = 2 from if_pos (.inl hmp))
    have HQ := Lib.hid (show ordQ g k m loc page = [] from if_neg (by rw [HE.out]; decide))
    rw [hmp] at HMY
    clear hmp
    have C0 := HC0.out.cfg
    go_enter Try.func8, Try.ntmps8
    go_wp2_with (refine wpList_load_cfg rfl _ rfl _ rfl C0 ?_)
    refine (HMY.out _).mono ?_
    rintro e w1 ⟨rfl, hb⟩
    have HC1 := Lib.hid (HC0.out.later hb)
    clear hb C0
    go_wp2_with (fail)
    go_ret2
    exact ⟨_, by rw [HE.out]; rfl, by rw [HQ.out]; exact LstAt.nil _ _ _, HC1.out.bel⟩
  | true =>
    obtain ⟨hmb, hall, hkb⟩ := mayP_parts hmp
    have G := (good_iff g).1 hmb
    obtain ⟨n, hn⟩ : ∃ n : Nat, g 0 = n := ⟨(g 0).toNat, by have := G.n1; omega⟩
    have hn8 : n ≤ 8 := by have := G.n2; omega
    have HMP := Lib.hid hmp
    rw [hmp] at HMY
    by_cases hpg : page < 0
    · have HE := Lib.hid (show ordE g k m loc page = 2 from if_pos (.inr hpg))
      have HQ := Lib.hid (show ordQ g k m loc page = [] from if_neg (by rw [HE.out]; decide))
      clear hmp hmb hall hkb G hn hn8 HMP
      have C0 := HC0.out.cfg
      go_enter Try.func8, Try.ntmps8
      go_wp2_with (refine wpList_load_cfg rfl _ rfl _ rfl C0 ?_)
      refine (HMY.out _).mono ?_
      rintro e w1 ⟨rfl, hb⟩
      have HC1 := Lib.hid (HC0.out.later hb)
      clear hb C0
      go_wp2_with (fail)
      go_ret2
      exact ⟨_, by rw [HE.out]; rfl, by rw [HQ.out]; exact LstAt.nil _ _ _, HC1.out.bel⟩
    · by_cases hin : loc < 0 ∨ g 0 ≤ loc
      · have HE := Lib.hid (show ordE g k m loc page = 7 from by unfold ordE; rw [if_neg (by rw [hmp]; simp; omega), if_pos hin])
        have HQ := Lib.hid (show ordQ g k m loc page = [] from if_neg (by rw [HE.out]; decide))
        have HAK := Lib.hid (show askI g loc = 7 from by
          unfold askI
          rw [if_pos hmb, if_neg (by rw [show withinB loc 0 (g 0 - 1) = false from decide_eq_false (by omega)]; decide)])
        have HOR := Lib.hid (fun W => corder_any A g loc W HA.out)
        rw [HAK.out, if_neg (by decide)] at HOR
        clear hmp hmb hall hkb G hn hn8 HMP hin
        have C0 := HC0.out.cfg
        go_enter Try.func8, Try.ntmps8
        go_wp2_with (refine wpList_load_cfg rfl _ rfl _ rfl C0 ?_)
        refine (HMY.out _).mono ?_
        rintro e w1 ⟨rfl, hb⟩
        have HC1 := Lib.hid (HC0.out.later hb)
        clear hb C0
        have C1 := HC1.out.cfg
        go_wp2_with (refine wpList_load_cfg rfl _ rfl _ rfl C1 ?_)
        refine (HOR.out _).mono ?_
        rintro e w2 ⟨v, rfl, _, hb, _⟩
        have HC2 := Lib.hid (HC1.out.later hb)
        clear hb C1
        go_wp2_with (fail)
        go_ret2
        exact ⟨_, by rw [HE.out]; rfl, by rw [HQ.out]; exact LstAt.nil _ _ _, HC2.out.bel⟩
      · obtain ⟨l, rfl⟩ : ∃ l : Nat, loc = l := ⟨loc.toNat, by omega⟩
        obtain ⟨p, rfl⟩ : ∃ p : Nat, page = p := ⟨page.toNat, by omega⟩
        have hln : l < n := by omega
        have HE := Lib.hid (show ordE g k m (l : Int) (p : Int) = 0 from by unfold ordE; rw [if_neg (by rw [hmp]; simp), if_neg hin])
        have HQ := Lib.hid (show ordQ g k m (l : Int) (p : Int) = polL g n k m l p from by
          unfold ordQ
          rw [if_pos HE.out, hn, Int.toNat_natCast, Int.toNat_natCast, Int.toNat_natCast])
        have HAK := Lib.hid (ask_zero.2 ⟨G, show (0 : Int) ≤ (l : Int) by omega, by omega⟩)
        have HOR := Lib.hid (fun W => corder_any A g (l : Int) W HA.out)
        rw [HAK.out, if_pos rfl, hn, Int.toNat_natCast, Int.toNat_natCast] at HOR
        have HIN := Lib.hid (inN_all hn hn8 hall)
        have HKP := Lib.hid (kindB_pos hkb)
        have HG := Lib.hid G
        have HN := Lib.hid hn
        have HAL := Lib.hid hall
        have hk3 := HKP.out.1
        have hpp : (p : Int) ≤ 9223372036854775807 := hpage.2
        clear hmp hmb hall hkb G hn HMP hin
        have C0 := HC0.out.cfg
        go_enter Try.func8, Try.ntmps8
        go_wp2_with (refine wpList_load_cfg rfl _ rfl _ rfl C0 ?_)
        refine (HMY.out _).mono ?_
        rintro e w1 ⟨rfl, hb⟩
        have HC1 := Lib.hid (HC0.out.later hb)
        clear hb C0
        have C1 := HC1.out.cfg
        go_wp2_with (refine wpList_load_cfg rfl _ rfl _ rfl C1 ?_)
        refine (HOR.out _).mono ?_
        rintro e w2 ⟨v, rfl, hv, hb, _⟩
        have HV := Lib.hid hv
        have HC2 := Lib.hid (HC1.out.later hb)
        clear hb C1 hv
        generalize hpb : w.heap.size + 1 = pb at *
        have p0 := HC2.out.k0
        have p1 := HC2.out.k1
        rw [hpb] at p0 p1
        rcases (show k = 0 ∨ k = 1 ∨ k = 2 ∨ k = 3 by omega) with rfl | rfl | rfl | rfl
        · go_wp2_with (fail)
          go_ret2
          exact ⟨_, by rw [HE.out]; rfl, by rw [HQ.out]; exact HV.out, HC2.out.bel⟩
        · have h1 := HKP.out.2.1 rfl
          have hf0 : (inN m 8)[0]! < n := by
            have h2 := List.all_eq_true.1 HAL.out ((inN m 8)[0]!) (by rw [getElem!_pos _ _ (by omega)]; exact List.getElem_mem _)
            have h3 := of_decide_eq_true h2
            rw [HN.out] at h3
            omega
          have HQ2 := Lib.hid (show polL g n 1 m l p = nearN g ((inN m 8)[0]!) n from by unfold polL; rw [if_neg (by decide), if_pos rfl, HIN.out])
          have hz : Lib.trailingZeros8 m = (inN m 8)[0]! := ntz_inN ⟨m, by omega⟩ (by rw [h1]; decide)
          have HT := Lib.hid (fun W => ntz8_any m hm W)
          rw [hz] at HT
          generalize (inN m 8)[0]! = f at *
          have HA2 := Lib.hid (ask_zero.2 ⟨HG.out, show (0 : Int) ≤ (f : Int) by omega, by rw [HN.out]; omega⟩)
          have HO2 := Lib.hid (fun W => corder_any A g (f : Int) W HA.out)
          rw [HA2.out, if_pos rfl, HN.out, Int.toNat_natCast, Int.toNat_natCast] at HO2
          go_wp2_with (fail)
          have L0 := Lib.hid (fun U (hU : Kept w2.heap.size w2 U) => load_cfgP (HC2.out.later hU.below).cfg)
          have L1 := Lib.hid (fun U (hU : Kept w2.heap.size w2 U) => load_u8 (HC2.out.later hU.below).k1)
          rw [hpb] at L1
          refine wp_region_lex (Kept w2.heap.size w2) [(0, false), (1, false), (2, false), (3, true), (4, true), (5, false), (6, false), (7, false), (8, false)] (by kernel_rfl) (by kernel_rfl) rfl (by kernel_rfl) (Below.refl _ w2).drew ?_
          intro W0 hK0
          have HK0 := Lib.hid hK0
          clear hK0
          refine lexH_load rfl rfl _ _ rfl rfl L0.out ?_
          simp only [List.getElem_toArray, List.getElem_cons_zero, Act.put, List.setIfInBounds_toArray, List.set_cons_zero, List.set_cons_succ]
          refine lexH_yieldE rfl rfl ?_
          apply Exists.intro
          refine ⟨fun W hW => ?_, ?_⟩
          focus (go_simp; exact rfl)
          simp only [List.getElem_toArray, List.getElem_cons_succ, List.getElem_cons_zero, Act.put, List.setIfInBounds_toArray, List.set_cons_zero, List.set_cons_succ]
          refine lexH_load rfl rfl _ _ rfl rfl L1.out ?_
          simp only [List.getElem_toArray, List.getElem_cons_succ, List.getElem_cons_zero, Act.put, List.setIfInBounds_toArray, List.set_cons_zero, List.set_cons_succ]
          refine lexH_call 20 #[.int .u8 (m : Int)] rfl rfl ?_ ?_
          focus (go_simp; done)
          refine (HT.out _).mono ?_
          rintro e W1 ⟨rfl, rfl⟩
          refine ⟨_, rfl, HK0.out, ?_⟩
          simp only [List.getElem_toArray, List.getElem_cons_succ, List.getElem_cons_zero, Act.put, List.setIfInBounds_toArray, List.set_cons_zero, List.set_cons_succ]
          refine lexH_call 19 #[.agg A, .int .i64 (f : Int)] rfl rfl ?_ ?_
          focus (go_simp; done)
          refine (HO2.out _).mono ?_
          rintro e W2 ⟨v2, rfl, hv2, hb2, _⟩
          have HK2 := Lib.hid (HK0.out.call (Nat.le_refl _) hb2)
          have HV2 := Lib.hid hv2
          clear hv2 hb2
          refine ⟨_, rfl, HK2.out, ?_⟩
          simp only [List.getElem_toArray, List.getElem_cons_succ, List.getElem_cons_zero, Act.put, List.setIfInBounds_toArray, List.set_cons_zero, List.set_cons_succ]
          refine lexH_yieldE rfl rfl ?_
          apply Exists.intro
          refine ⟨fun W hW => ?_, ?_⟩
          focus (go_simp; exact rfl)
          simp only [List.getElem_toArray, List.getElem_cons_succ, List.getElem_cons_zero, Act.put, List.setIfInBounds_toArray, List.set_cons_zero, List.set_cons_succ]
          refine lexH_yieldE rfl rfl ?_
          apply Exists.intro
          refine ⟨fun W hW => ?_, ?_⟩
          focus (go_simp; exact rfl)
          simp only [List.getElem_toArray, List.getElem_cons_succ, List.getElem_cons_zero, Act.put, List.setIfInBounds_toArray, List.set_cons_zero, List.set_cons_succ]
          refine lexH_yieldE rfl rfl ?_
          apply Exists.intro
          refine ⟨fun W hW => ?_, ?_⟩
          focus (go_simp; exact rfl)
          simp only [List.getElem_toArray, List.getElem_cons_succ, List.getElem_cons_zero, Act.put, List.setIfInBounds_toArray, List.set_cons_zero, List.set_cons_succ]
          refine lexH_yieldE rfl rfl ?_
          apply Exists.intro
          refine ⟨fun W hW => ?_, ?_⟩
          focus (go_simp; exact rfl)
          simp only [List.getElem_toArray, List.getElem_cons_succ, List.getElem_cons_zero, Act.put, List.setIfInBounds_toArray, List.set_cons_zero, List.set_cons_succ]
          refine lexH_nil ?_
          go_wp2_with (fail)
          go_ret2
          exact ⟨_, by rw [HE.out]; rfl, by rw [HQ.out, HQ2.out]; exact HV2.out, HC2.out.bel.trans (HK2.out.below.mono HC2.out.bel.size)⟩
        · have HQ2 := Lib.hid (show polL g n 2 m l p = (nearN g l n).filter (hasM m) from by unfold polL; rw [if_neg (by decide), if_neg (by decide), if_neg (by decide)])
          have HP1 := Lib.hid p1
          go_wp2_with (fail)
          refine (sift_any 22 (some ⟨pb, 0, none⟩) (hasM m) w2 (enters_of Try.func22 (by kernel_rfl) rfl) (fun W x hx hb => order1_any m x pb hm hx W (by rw [hb.cell (World.block_lt_of_cell? _ _ HP1.out)]; exact HP1.out)) v (nearN g l n) HV.out (fun x hx => by have := (mem_nearN hn8).1 hx; omega) (by rw [nearN_len]; exact hn8)).mono ?_
          rintro e w3 ⟨u, rfl, ho, hb⟩
          have HU := Lib.hid (own_lst ho)
          have HB := Lib.hid (HC2.out.bel.trans (hb.mono HC2.out.bel.size))
          clear ho hb
          go_wp2_with (fail)
          go_ret2
          exact ⟨_, by rw [HE.out]; rfl, by rw [HQ.out, HQ2.out]; exact HU.out, HB.out⟩
        · have HQ2 := Lib.hid (show polL g n 3 m l p = rotN (inN m n) p ++ (nearN g l n).filter (fun x => !hasM m x) from by unfold polL; rw [if_neg (by decide), if_neg (by decide), if_pos rfl])
          have hT : 0 < (inN m n).length := by rw [HIN.out]; exact HKP.out.2.2.1 (.inr rfl)
          go_wp2_with (fail)
          refine (inter_any hs g l n m p hn8 hm hT hpp w2 v HV.out).mono ?_
          rintro e w3 ⟨u, rfl, hu, hb⟩
          have HU := Lib.hid hu
          have HB := Lib.hid (HC2.out.bel.trans (hb.mono HC2.out.bel.size))
          clear hu hb
          go_wp2_with (fail)
          go_ret2
          exact ⟨_, by rw [HE.out]; rfl, by rw [HQ.out, HQ2.out]; exact HU.out, HB.out⟩
end
end
section
open Go.RowKit Go

theorem po_ok : PoOk where
  may w A g k m hA hk hm := lmay_any A g k m hk hm w hA
  order w A g k m loc page hA hk hm hl hp := lorder_any psort_ok A g k m hk hm loc page hl hp w hA
  allowed w k m n hk hm _ := lallow_any k m hk hm n w
end
end Go.Proofs.Ytcbdmdalijhkoaa
