/-
  chain's document: Give.
-/
import Derived.Test.YtlimbcpghfddkaaChRefT
import Derived.Laws.AppendOwn
import Derived.Laws.OwnMore
namespace Go.Proofs.Ytlimbcpghfddkaa
open Go.RowKit Go

theorem intInfoC : (Try.prog.info? 3).map (fun i => (i.zero, i.size, i.bytes)) = some (some (.int .i64 0), 1, 8) := by kernel_rfl
theorem nat_short : ∀ (m : Nat) (l : List Nat), l.Nodup → (∀ x ∈ l, x < m) → l.length ≤ m
  | 0, [], _, _ => Nat.le_refl _
  | 0, x :: _, _, h => by have := h x List.mem_cons_self; omega
  | m + 1, l, hn, h => by
    have h1 := nat_short m (l.erase m) (hn.erase _) (fun x hx => by
      have h2 := h x (List.mem_of_mem_erase hx)
      have h3 : x ≠ m := fun e => by subst e; exact hn.not_mem_erase hx
      omega)
    have h4 := List.length_erase (a := m) (l := l)
    split at h4 <;> omega
theorem SlI.len {S : Sl} (I : SlI S) : S.ch.length ≤ S.n := nat_short _ _ I.nd I.lt
theorem wrK_pos {S S' : Sl} (h : ∀ i, S.pos i = S'.pos i) (l : List Nat) (f : Nat → UInt8) : ∀ k, wrK S l k f = wrK S' l k f
  | 0 => rfl
  | k + 1 => by
    show updC (wrK S l k f) (S.pos (l.getD k 0)) _ = updC (wrK S' l k f) (S'.pos (l.getD k 0)) _
    rw [wrK_pos h l f k, h]
theorem given_eq {S : Sl} (I : SlI S) {i : Nat} (hni : i ∉ S.ch) : wrS { S with out := updC S.out i false, ch := i :: S.ch } (i :: S.ch).length = S.given i := by
  have e := wrK_pos (S := { S with out := updC S.out i false, ch := i :: S.ch }) (S' := S) (fun _ => rfl) (i :: S.ch) S.bt (i :: S.ch).length
  have e2 : wrK S (i :: S.ch) (i :: S.ch).length S.bt = updC S.bt (S.pos i) (nxt S.ch 0) := wrK_given I hni _ (Nat.le_refl _)
  show Sl.mk S.sz S.co (i :: S.ch) (updC S.out i false) S.tu (wrK { S with out := updC S.out i false, ch := i :: S.ch } (i :: S.ch) (i :: S.ch).length S.bt) = _
  rw [e, e2]
  rfl
/-- Numbers as they lie. -/
def natV (l : List Nat) : List Value := l.map fun (i : Nat) => Value.int .i64 (i : Int)
theorem natV_len (l : List Nat) : (natV l).length = l.length := by simp [natV]
theorem natV_at {l : List Nat} {j : Nat} (h : j < l.length) : (natV l)[j]? = some (.int .i64 (l.getD j 0 : Int)) := by
  unfold natV
  rw [List.getElem?_map, List.getD_eq_getElem?_getD, List.getElem?_eq_getElem h]
  rfl
theorem natV_one (l : List Nat) : ∀ u ∈ natV l, u.oneCell' = true := fun u hu => by
  obtain ⟨i, _, rfl⟩ := List.mem_map.1 hu
  rfl
section
variable {w w' : World} {r bb bc : Nat} {S : Sl} {v : Value} {l : List Nat}
theorem ChIn.src {a : Option Addr} {n c : Nat} (h : ChIn w r bb (.slice a n c) l) : n = l.length ∧ (0 < l.length → ∃ ad, a = some ad ∧ ∀ j u, (natV l)[j]? = some u → w.cell? (ad.add j) = some u) := by
  obtain ⟨a', c', e, _, hh⟩ := h
  injection e with e1 e2 _
  subst e1
  refine ⟨e2, fun hp => ?_⟩
  obtain ⟨b, o, rfl, _⟩ := hh 0 hp
  refine ⟨_, rfl, fun j u hj => ?_⟩
  have hjl : j < l.length := by
    have := (List.getElem?_eq_some_iff.1 hj).1
    rwa [natV_len] at this
  obtain ⟨b', o', e3, _, _, hc⟩ := hh j hjl
  injection e3 with e3
  injection e3 with h1 h2 _
  subst h1
  subst h2
  rw [natV_at hjl] at hj
  injection hj with hj
  subst hj
  rw [Addr.add_mid]
  exact hc
theorem ChIn.of_owns {base : Nat} (h : w.ownsRow base 3 1 v l.length (natV l)) (h1 : r < base) (h2 : bb < base) : ChIn w r bb v l := by
  obtain ⟨a, c, rfl, hh⟩ := owns_slice h
  refine ⟨a, c, rfl, ?_, fun j hj => ?_⟩
  · rcases h.2 with ⟨e, hl⟩ | ⟨g, cap, cur, e, _, _, hcap, _⟩
    · rw [hl]; exact Nat.zero_le _
    · injection e with _ _ e3
      rw [e3]; exact hcap
  · obtain ⟨g, rfl, hg, _, A, t, hA, hx⟩ := hh (by omega)
    have h3 := hx j (by omega)
    rw [natV_at hj] at h3
    exact ⟨g, 0, rfl, by omega, by omega, by rw [cell_of_row _ _ _ _ _ _ hA, Nat.zero_add]; exact h3⟩
/-- An answer, and a slab. -/
def CGPost (w : World) (r bb bc : Nat) (q : Int × Sl) (e : Ending) (w' : World) : Prop :=
  e = .returned (.int .i64 q.1) ∧ (∃ v', CRef w' r bb bc q.2 v') ∧ Only (fun k => k = r ∨ k = bb) w w'
def CGPostB (w : World) (r bb bc : Nat) (C : Nat → Prop) (q : Int × Sl) (e : Ending) (w' : World) : Prop :=
  e = .returned (.int .i64 q.1) ∧ (∃ v', CRef w' r bb bc q.2 v' ∧ ∀ k, inC v' k → C k) ∧ Only (fun k => k = r ∨ k = bb) w w'
theorem CGPostB.same {q : Int} {C : Nat → Prop} (R : CRef w r bb bc S v) (hC : ∀ k, inC v k → C k) : CGPostB w r bb bc C (q, S) (.returned (.int .i64 q)) w := ⟨rfl, ⟨v, R, hC⟩, Only.refl _ _⟩
theorem inC_owns {base n size : Nat} {T : TypeId} {v : Value} {xs : List Value} (h : w.ownsRow base T size v n xs) : ∀ k, inC v k → base ≤ k := by
  rintro k ⟨o, m, c, rfl, hm⟩
  obtain ⟨a, c2, e, hh⟩ := owns_slice h
  injection e with e1 e2 _
  obtain ⟨g, rfl, hg, _⟩ := hh (by omega)
  injection e1 with e1
  injection e1 with e1 _ _
  omega
theorem CGPost.same {q : Int} (R : CRef w r bb bc S v) : CGPost w r bb bc (q, S) (.returned (.int .i64 q)) w := ⟨rfl, ⟨v, R⟩, Only.refl _ _⟩
set_option maxRecDepth 100000 in
set_option maxHeartbeats 4000000 in
theorem rgiveB_any (R : CRef w r bb bc S v) (I : SlI S) (i : Int) {C : Nat → Prop} (hC : ∀ k, inC v k → C k) (hC2 : ∀ k, w.heap.size ≤ k → C k) :
    Calls Try.prog 46 #[.pointer (some ⟨r, 0, none⟩), .int .i64 i] w (CGPostB w r bb bc C (S.give i)) := by
  have HC := Lib.hid hC
  have HC2 := Lib.hid hC2
  clear hC hC2
  have c3 := R.c3
  have hn := I.parts.2.2.2.1
  by_cases h0 : i < 0
  · have hz : S.give i = (2, S) := by unfold Sl.give; rw [if_pos (has_no.2 (.inl h0))]
    rw [hz]
    have HP := Lib.hid (CGPostB.same (q := 2) R HC.out)
    clear hz I R
    generalize S.n = n at *
    go_enter Try.func46, Try.ntmps46
    go_wp2_with (fail)
    go_ret
    exact HP.out
  · obtain ⟨k, rfl⟩ : ∃ k : Nat, i = k := ⟨i.toNat, by omega⟩
    by_cases h1 : k < S.n
    · have hk32 : (k : Int) < 32 := by omega
      have h1I : ¬ (S.n : Int) ≤ (k : Int) := by omega
      have co := R.co (i := k) (by omega)
      have ct := R.ct (i := k) (by omega)
      have hh := has_nat.2 h1
      cases ho : S.out k with
      | false =>
        have hz : S.give k = (8, S) := by unfold Sl.give; rw [if_neg (by rw [hh]; decide), if_pos (by rw [Int.toNat_natCast]; exact ho)]
        rw [hz]
        rw [ho] at co
        have HP := Lib.hid (CGPostB.same (q := 8) R HC.out)
        clear hz I R hh ho ct
        generalize S.n = n at *
        go_enter Try.func46, Try.ntmps46
        go_wp2_with (fail)
        go_ret
        exact HP.out
      | true =>
        rw [ho] at co
        by_cases ht : S.tu k = 0
        · have hz : S.give k = (0, S.given k) := by unfold Sl.give; rw [if_neg (by rw [hh]; decide), if_neg (by rw [Int.toNat_natCast, ho]; decide), if_neg (by rw [Int.toNat_natCast]; exact fun h => h ht), Int.toNat_natCast]
          rw [hz]
          rw [ht] at ct
          obtain ⟨i0, hi, hz0, hz1, hz2⟩ := info_parts intInfoC
          have fo : w.frozen? ⟨r, 5 + k, none⟩ = false := R.row.frozen _
          have hsO := R.setOut (i := k) (by omega) false
          have HR1 := Lib.hid hsO.1
          have HO1 := Lib.hid hsO.2
          have HI := Lib.hid I
          have HNI := Lib.hid ((I.out k h1).1 ho)
          have hcl := I.len
          have hrl := R.row.lt
          have hbl := R.byt.lt
          have c4 : (w.setCell ⟨r, 5 + k, none⟩ (.bool false)).cell? ⟨r, 4, none⟩ = some v := hsO.1.c4
          have f4 : (w.setCell ⟨r, 5 + k, none⟩ (.bool false)).frozen? ⟨r, 4, none⟩ = false := hsO.1.row.frozen _
          obtain ⟨a, c, hv, _, _⟩ := R.chn
          subst hv
          have hsz : (w.setCell ⟨r, 5 + k, none⟩ (.bool false)).heap.size = w.heap.size := by simp
          clear hz I R hh ho hsO
          have hba : Below w.heap.size (w.setCell ⟨r, 5 + k, none⟩ (.bool false)) ((w.setCell ⟨r, 5 + k, none⟩ (.bool false)).alloc (.cells #[.int .i64 k] 3)) := by
            have h := (Below.refl (w.setCell ⟨r, 5 + k, none⟩ (.bool false)).heap.size (w.setCell ⟨r, 5 + k, none⟩ (.bool false))).alloc (Nat.le_refl _) (.cells #[.int .i64 k] 3)
            rw [hsz] at h
            exact h
          have HOW := Lib.hid (show ((w.setCell ⟨r, 5 + k, none⟩ (.bool false)).alloc (.cells #[.int .i64 k] 3)).ownsRow w.heap.size 3 1 (.slice (some ⟨w.heap.size, 0, none⟩) 1 1) 1 [.int .i64 k] by
            have h := World.ownsRow_lit (base := (w.setCell ⟨r, 5 + k, none⟩ (.bool false)).heap.size) (e := 3) (size := 1) (w.setCell ⟨r, 5 + k, none⟩ (.bool false)) #[.int .i64 k] 1 (Nat.le_refl _) (by decide) rfl
            rw [hsz] at h
            exact h)
          have hR2 := HR1.out.later (show Below (w.setCell ⟨r, 5 + k, none⟩ (.bool false)).heap.size (w.setCell ⟨r, 5 + k, none⟩ (.bool false)) ((w.setCell ⟨r, 5 + k, none⟩ (.bool false)).alloc (.cells #[.int .i64 k] 3)) by rw [hsz]; exact hba)
          have HSRC := Lib.hid (hR2.chn.src.2)
          have HBA := Lib.hid hba
          have hs2 : w.heap.size ≤ ((w.setCell ⟨r, 5 + k, none⟩ (.bool false)).alloc (.cells #[.int .i64 k] 3)).heap.size := by simp
          clear hba hR2
          go_enter Try.func46, Try.ntmps46
          go_wp2_with (first | (at_builtin; refine wpList_append_src _ rfl _ _ 52 rfl w.heap.size 3 i0 _ 1 8 Try.underlying52 hi hz0 hz1 hz2 rfl (by decide) (.slice (some ⟨w.heap.size, 0, none⟩) 1 1) 1 [.int .i64 k] rfl HOW.out a S.ch.length c (natV S.ch) rfl (by rw [natV_len, Nat.mul_one]) HSRC.out (natV_one _) (by unfold maxLen; omega) (by omega) hs2 ?_; intro v3 w3 hown3 hgr3 _; obtain ⟨a3, cc3, rfl, _⟩ := owns_slice hown3; have hb3 : Below w.heap.size (w.setCell ⟨r, 5 + k, none⟩ (.bool false)) w3 := (Only.of_grown hgr3).below HBA.out hs2 (fun q hq => by simp [Value.ownBlock] at hq; omega); have hR3 := HR1.out.later (show Below (w.setCell ⟨r, 5 + k, none⟩ (.bool false)).heap.size (w.setCell ⟨r, 5 + k, none⟩ (.bool false)) w3 by rw [hsz]; exact hb3); have c43 := hR3.c4; have f43 : w3.frozen? ⟨r, 4, none⟩ = false := hR3.row.frozen 4) | fail)
          have e1 : 1 + S.ch.length = (k :: S.ch).length := by simp; omega
          rw [e1] at hown3 ⊢
          have hCh : ChIn w3 r bb (.slice a3 (k :: S.ch).length cc3) (k :: S.ch) := ChIn.of_owns hown3 hrl hbl
          have HIN := Lib.hid (show ∀ q, inC (.slice a3 (k :: S.ch).length cc3) q → C q from fun q hq => HC2.out q (inC_owns hown3 q hq))
          have hS4 := hR3.setCh hCh
          have HS4 := Lib.hid hS4.1
          have HO4 := Lib.hid (show Only (fun k => k = r ∨ k = bb) w (w3.setCell ⟨r, 4, none⟩ (.slice a3 (k :: S.ch).length cc3)) from
            ((HO1.out.trans (Only.of_below (show Below (w.setCell ⟨r, 5 + k, none⟩ (.bool false)).heap.size (w.setCell ⟨r, 5 + k, none⟩ (.bool false)) w3 by rw [hsz]; exact hb3))).trans hS4.2).mono (fun k hk => .inl hk))
          have HG := Lib.hid (given_eq HI.out HNI.out)
          clear hown3 hgr3 hb3 hR3 c43 f43 hCh hS4 c4 f4 e1 HOW HSRC HR1 HO1 HBA
          refine (rwrite_any HS4.out HI.out.may (fun i hi => by
            rcases List.mem_cons.1 hi with rfl | hi
            · exact h1
            · exact HI.out.lt i hi) (by show (k :: S.ch).length ≤ 100; rw [List.length_cons]; omega)).mono ?_
          rintro e w5 ⟨rfl, hR5, ho5⟩
          have HP := Lib.hid (show CGPostB w r bb bc C (0, S.given k) (.returned (.int .i64 0)) w5 from ⟨rfl, ⟨_, by rw [← HG.out]; exact hR5, HIN.out⟩, HO4.out.trans (ho5.mono (fun k hk => .inr hk))⟩)
          clear hR5 ho5
          go_wp2_with (fail)
          go_ret
          exact HP.out
        · have hz : S.give k = (80, S) := by unfold Sl.give; rw [if_neg (by rw [hh]; decide), if_neg (by rw [Int.toNat_natCast, ho]; decide), if_pos (by rw [Int.toNat_natCast]; exact ht)]
          rw [hz]
          have htb : (S.tu k == 0) = false := by simpa using ht
          have HP := Lib.hid (CGPostB.same (q := 80) R HC.out)
          clear hz I R hh ho ht
          generalize S.n = n at *
          generalize S.tu k = u at *
          go_enter Try.func46, Try.ntmps46
          go_wp2_with (fail)
          go_ret
          exact HP.out
    · have hz : S.give k = (2, S) := by unfold Sl.give; rw [if_pos (has_no.2 (.inr (by omega)))]
      rw [hz]
      have HP := Lib.hid (CGPostB.same (q := 2) R HC.out)
      have h1I : (S.n : Int) ≤ (k : Int) := by omega
      clear hz I R
      generalize S.n = n at *
      go_enter Try.func46, Try.ntmps46
      go_wp2_with (fail)
      go_ret
      exact HP.out
theorem rgive_any (R : CRef w r bb bc S v) (I : SlI S) (i : Int) :
    Calls Try.prog 46 #[.pointer (some ⟨r, 0, none⟩), .int .i64 i] w (CGPost w r bb bc (S.give i)) :=
  (rgiveB_any R I i (C := fun _ => True) (fun _ _ => trivial) (fun _ _ => trivial)).mono fun _ _ ⟨h1, ⟨v', h2, _⟩, h3⟩ => ⟨h1, ⟨v', h2⟩, h3⟩
end
end Go.Proofs.Ytlimbcpghfddkaa
