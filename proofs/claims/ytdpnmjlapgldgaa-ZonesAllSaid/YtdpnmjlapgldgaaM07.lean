/-
  Texts that this claim builds on, merged.
-/
import Derived.Test.YtdpnmjlapgldgaaM06
import Derived.Test.YtdpnmjlapgldgaaM04
import Derived.Test.YtdpnmjlapgldgaaM02
import Derived.OrdersIn
import Derived.ControlIn
import Derived.OwnWalkIn
import Derived.Test.YtdpnmjlapgldgaaM01
import Derived.Test.YtdpnmjlapgldgaaM05
import Derived.Deep.AppendLies
import Derived.Laws.OwnMore
namespace Go.Proofs.Ytdpnmjlapgldgaa
/-! zones: New. -/
section
open Go.RowKit Go

def isBuildZ : Op → Bool
  | .build .. => true
  | _ => false
theorem wpList_buildZ {P : Program} {ops : Array Oper} {rest : List Oper} {op : Oper} {a : Act} {w : World} {Q : Exit → Act → World → Prop} (hgd : op.guard = none) (_ : isBuildZ op.op = true) (v : Value) (hr : (execOp a.eval op).run P w = .ok (.value v) w)
    (h : wpList P ops Q rest (a.put op.dst v) w) : wpList P ops Q (op :: rest) a w :=
  wpList_plain hgd fun _ hK => by
    unfold Oper.wp
    simp only [hr]
    exact hK _ _ h
def zmkV (g : Nat → Int) (v : Value) (i : Nat) : Value := if i < 94 then .int .i64 (g i) else v
/-- The cells of zones as a value. -/
def zmA (g : Nat → Int) (v : Value) : Array Value := (ofG g).push v
theorem zmA_at (g : Nat → Int) (v : Value) : ∀ i, i < 95 → (zmA g v)[i]? = some (zmkV g v i) := by
  intro i hi
  unfold zmA zmkV
  by_cases h1 : i < 94
  · rw [if_pos h1, Array.getElem?_push, if_neg (by simp [ofG]; omega)]
    exact (cfg_ofG g).get i h1
  · rw [if_neg h1]
    obtain rfl : i = 94 := by omega
    rw [Array.getElem?_push, if_pos (by simp [ofG])]
/-- Some nodes have been laid. -/
structure ZMk (w : World) (z k : Nat) (g : Nat → Int) (L T : Nat → List (Int × Int)) (ds : Nat → Nat) (mbs : Nat → Nat → Nat) (tbs : Nat → Nat) (v : Value) (W : World) : Prop where
  row : RowAt W z 95 (zmkV g v)
  own : W.ownsRow (z + 1) 63 1 v k (ptrL ds k)
  nd : ∀ i, i < k → NodeAt W (ds i) (frN g i) (mbs i) (tbs i) (L i) (T i)
  lo : ∀ i, i < k → z < ds i ∧ ∀ q, own6 (mbs i) (tbs i) q → z < q
  dj : ∀ i j, i < k → j < k → i ≠ j → ds i ≠ ds j ∧ ∀ q, own6 (mbs i) (tbs i) q → ¬ own6 (mbs j) (tbs j) q
  bel : Below w.heap.size w W
  r1 : w.heap.size ≤ z
  lt : z < W.heap.size
section
variable {w W W' : World} {z k : Nat} {g : Nat → Int} {L T : Nat → List (Int × Int)} {ds : Nat → Nat} {mbs : Nat → Nat → Nat} {tbs : Nat → Nat} {v : Value}
theorem ZMk.later (M : ZMk w z k g L T ds mbs tbs v W) (h : Below W.heap.size W W') : ZMk w z k g L T ds mbs tbs v W' :=
  ⟨M.row.later h, owns_later M.own h, fun i hi => (M.nd i hi).later h, M.lo, M.dj, M.bel.trans (h.mono (by have := M.r1; have := M.lt; omega)), M.r1, Nat.lt_of_lt_of_le M.lt h.size⟩
theorem ZMk.own_ptr (M : ZMk w z k g L T ds mbs tbs v W) (hk : 0 < k) {j : Nat} (h : v.ownBlock = some j) : W.cell? ⟨j, 0, none⟩ = some (.pointer (some ⟨ds 0, 0, none⟩)) := by
  obtain ⟨a, cap, rfl, hh⟩ := owns_slice M.own
  obtain ⟨q, _, _, ho, B, t, hB, hx⟩ := hh hk
  rw [ho] at h
  injection h with h
  subst h
  rw [cell_of_row _ _ _ _ _ _ hB, hx 0 (by omega)]
  unfold ptrL
  rw [List.getElem?_map, List.getElem?_range (by omega)]
  rfl
/-- One node more. -/
theorem ZMk.more (M : ZMk w z k g L T ds mbs tbs v W) {d : Nat} {mb : Nat → Nat} {tb : Nat} {v3 : Value} (N : NodeAt W d (frN g k) mb tb (L k) (T k)) (B : Nat) (hd : B ≤ d) (hq : ∀ q, own6 mb tb q → B ≤ q) (hB : ∀ i, i < k → ds i < B ∧ ∀ q, own6 (mbs i) (tbs i) q → q < B) (hz : z < B)
    (hj : ∀ j, v.ownBlock = some j → j < B) (hown : W'.ownsRow (z + 1) 63 1 v3 (k + 1) (ptrL (updN ds k d) (k + 1))) (ho : Only (fun j => v.ownBlock = some j) W W') :
    ZMk w z (k + 1) g L T (updN ds k d) (updN mbs k mb) (updN tbs k tb) v3 (W'.setCell ⟨z, 94, none⟩ v3) := by
  have hs : Only (fun j => j = z) W' (W'.setCell ⟨z, 94, none⟩ v3) := Only.setCell (S := fun j => j = z) _ ⟨z, 94, none⟩ rfl _
  have hb : ∀ j, v.ownBlock = some j → z + 1 ≤ j := fun j h => (M.own.lt j h).1
  have hr1 := M.r1
  have hlt := M.lt
  have hsz : W.heap.size ≤ (W'.setCell ⟨z, 94, none⟩ v3).heap.size := Nat.le_trans ho.size hs.size
  refine ⟨?_, owns_only hown hs (fun j h e => by have := (hown.lt j h).1; omega), fun i hi => ?_, fun i hi => ?_, fun i j hi hj2 e => ?_, ?_, hr1, Nat.lt_of_lt_of_le hlt hsz⟩
  · refine ((M.row.only ho (fun h => by have := hb _ h; omega)).setCell 94 v3).ext fun i hi => ?_
    unfold updV zmkV
    by_cases e : i = 94
    · subst e
      rw [if_pos rfl, if_neg (by decide)]
    · rw [if_neg e, if_pos (by omega), if_pos (by omega)]
  · by_cases e : i = k
    · subst e
      rw [updN_same, updN_same, updN_same]
      exact (N.only ho (fun h => by have := hj _ h; omega) (fun q h1 h => by have := hj _ h; have := hq q h1; omega)).only hs (by omega) (fun q h1 h => by have := hq q h1; omega)
    · have hik : i < k := by omega
      rw [updN_other ds e, updN_other mbs e, updN_other tbs e]
      have Ni := M.nd i hik
      refine (Ni.only ho (fun h => ?_) (fun q h1 h => Ni.own_cell h1 (M.own_ptr (by omega) h))).only hs (by have := (M.lo i hik).1; omega) (fun q h1 h => by have := (M.lo i hik).2 q h1; omega)
      have h2 := M.own_ptr (by omega) h
      rw [Ni.c0] at h2
      cases h2
  · by_cases e : i = k
    · subst e
      rw [updN_same, updN_same, updN_same]
      exact ⟨by omega, fun q h1 => by have := hq q h1; omega⟩
    · rw [updN_other ds e, updN_other mbs e, updN_other tbs e]
      exact M.lo i (by omega)
  · by_cases e1 : i = k
    · subst e1
      have e2 : j ≠ i := fun h => e h.symm
      rw [updN_same, updN_same, updN_same, updN_other ds e2, updN_other mbs e2, updN_other tbs e2]
      obtain ⟨b1, b2⟩ := hB j (by omega)
      exact ⟨by omega, fun q h1 h2 => by have := hq q h1; have := b2 q h2; omega⟩
    · by_cases e2 : j = k
      · subst e2
        rw [updN_same, updN_same, updN_same, updN_other ds e1, updN_other mbs e1, updN_other tbs e1]
        obtain ⟨b1, b2⟩ := hB i (by omega)
        exact ⟨by omega, fun q h1 h2 => by have := hq q h2; have := b2 q h1; omega⟩
      · rw [updN_other ds e1, updN_other mbs e1, updN_other tbs e1, updN_other ds e2, updN_other mbs e2, updN_other tbs e2]
        exact M.dj i j (by omega) (by omega) e
  · exact hs.below (ho.below M.bel (by omega) (fun j h => by have := hb j h; omega)) (by have := ho.size; omega) (fun j h => by omega)
/-- All are laid. -/
theorem ZMk.done (M : ZMk w z k g L T ds mbs tbs v W) (hk : 1 ≤ k) (hG : Good g) (hN : g 0 = (k : Int)) (I : ∀ i, i < k → Inv (frN g i) (L i) (T i)) : ∃ Z : ZC, Z.z = z ∧ ZnAt W Z g L T ∧ ∀ q, Z.all q → w.heap.size ≤ q := by
  obtain ⟨zb, zc, hve, hg1, _, _, hrow⟩ := RowAt.of_owns M.own (fun i => .pointer (some ⟨ds i, 0, none⟩)) (fun i hi => by
    rw [Nat.mul_one] at hi
    unfold ptrL
    rw [List.getElem?_map, List.getElem?_range hi]; rfl) (fun e => by
    have h := M.own
    rw [e] at h
    obtain ⟨_, ⟨_, h⟩ | ⟨g2, cap2, cur2, h, _⟩⟩ := h
    · omega
    · cases h)
  rw [Nat.mul_one] at hrow
  subst hve
  have hr1 := M.r1
  refine ⟨⟨z, zb, zc, k, ds, mbs, tbs⟩, rfl, ⟨M.row, hrow, M.nd, I, M.dj, hG, hN⟩, ?_⟩
  rintro q (h | h | ⟨i, hi, h | h⟩)
  · have h : q = z := h
    omega
  · have h : q = zb := h
    omega
  · have h : q = ds i := h
    have := (M.lo i hi).1
    omega
  · have := (M.lo i hi).2 q h
    omega
end
theorem ptrInfo6 : (Try.prog.info? 63).map (fun i => (i.zero, i.size, i.bytes)) = some (some (.pointer none), 1, 8) := by kernel_rfl
theorem ptr_cell (d : Nat) : ∀ u ∈ (#[Value.pointer (some ⟨d, 0, none⟩)] : Array Value).toList, u.oneCell' = true := fun u hu => by
  rw [List.mem_singleton] at hu
  subst hu
  rfl
set_option maxRecDepth 100000 in
theorem znew6_no (A : Array Value) (g : Nat → Int) (w : World) (hA : Cfg A g) (hm : mayB g = false) :
    Calls Try.prog 8 #[.agg A] w fun e w' => e = .returned (.tuple #[.pointer none, .int .i64 2]) ∧ Below w.heap.size w w' := by
  have C0 := CfgAt.new w hA
  have HA := Lib.hid hA
  have HM := Lib.hid hm
  clear hA hm
  go_enter Try.func8, Try.ntmps8
  go_wp2_with (refine wpList_load_cfg rfl _ rfl _ rfl C0 ?_)
  refine (may_any A g _ HA.out).mono ?_
  rintro e w1 ⟨rfl, hb⟩
  rw [HM.out]
  have HB := Lib.hid hb
  clear hb
  go_wp2_with (fail)
  go_ret2
  exact ⟨rfl, ((Below.refl _ _).alloc (Nat.le_refl _) _).trans (HB.out.mono (by simp))⟩
def ZNew (w : World) (g : Nat → Int) (e : Ending) (w' : World) : Prop := ∃ Z : ZC, e = .returned (.tuple #[.pointer (some ⟨Z.z, 0, none⟩), .int .i64 0]) ∧ ZnAt w' Z g (fun i => newL (frN g i)) (fun _ => []) ∧ Below w.heap.size w w' ∧ ∀ k, Z.all k → w.heap.size ≤ k
set_option maxRecDepth 100000 in
set_option maxHeartbeats 4000000 in
theorem znew6_any (A : Array Value) (g : Nat → Int) (w : World) (hA : Cfg A g) (hm : mayB g = true) :
    Calls Try.prog 8 #[.agg A] w (ZNew w g) := by
  obtain ⟨i0, hi, hz0, hz1', hz2'⟩ := info_parts ptrInfo6
  obtain rfl : A = ofG g := Cfg.unique hA (cfg_ofG g)
  have G := (good_iff g).1 hm
  obtain ⟨N, hN⟩ : ∃ N : Nat, g 0 = N := ⟨(g 0).toNat, by have := G.n1; omega⟩
  have hN8 : N ≤ 8 := by have := G.n2; omega
  have hN1 : 1 ≤ N := by have := G.n1; omega
  have hB0 : Below w.heap.size w (w.alloc (.cells (ofG g) 26)) := (Below.refl _ _).alloc (Nat.le_refl _) _
  have C0 := CfgAt.new w hA
  have HC0 := Lib.hid C0
  have HB0 := Lib.hid hB0
  have HG := Lib.hid G
  have HN := Lib.hid hN
  have HA := Lib.hid hA
  have HM := Lib.hid hm
  have hs1 : (w.alloc (.cells (ofG g) 26)).heap.size = w.heap.size + 1 := by simp
  clear hB0 hA hm G hN
  go_enter Try.func8, Try.ntmps8
  go_wp2_with (refine wpList_load_cfg rfl _ rfl _ rfl C0 ?_)
  clear C0
  generalize w.alloc (.cells (ofG g) 26) = w1 at *
  refine (may_any (ofG g) g _ HA.out).mono ?_
  rintro e w2 ⟨rfl, hb⟩
  rw [HM.out]
  have HB := Lib.hid hb
  have C2 := HC0.out.later hb
  have HC2 := Lib.hid C2
  clear hb
  have ha : Below w2.heap.size w2 (w2.alloc (.cells (zmA g (.slice none 0 0)) 48)) := (Below.refl _ w2).alloc (Nat.le_refl _) _
  have hw2 := HB.out.size
  have hb3 : Below w.heap.size w (w2.alloc (.cells (zmA g (.slice none 0 0)) 48)) := (HB0.out.trans (HB.out.mono (by omega))).trans (ha.mono (by omega))
  have HMK := Lib.hid (show ZMk w w2.heap.size 0 g (fun i => newL (frN g i)) (fun _ => []) (fun _ => 0) (fun _ _ => 0) (fun _ => 0) (.slice none 0 0) (w2.alloc (.cells (zmA g (.slice none 0 0)) 48)) from
    ⟨RowAt.new w2 _ _ 95 _ (zmA_at g _), World.ownsRow_nil _ _ _ _, fun i h => absurd h (Nat.not_lt_zero _), fun i h => absurd h (Nat.not_lt_zero _), fun i j h => absurd h (Nat.not_lt_zero _), hb3, by omega, by simp⟩)
  have HC3 := Lib.hid (HC2.out.later ha)
  have c0 : (w2.alloc (.cells (zmA g (.slice none 0 0)) 48)).cell? ⟨w.heap.size, 0, none⟩ = some (.int .i64 N) := by rw [HC3.out.cell 0 (by decide), HN.out]
  have hw3 : w.heap.size < w2.heap.size := by omega
  have hNI : (0 : Int) ≤ N := by omega
  have hNI8 : (N : Int) ≤ 8 := by omega
  clear ha hb3 HC0 HB0 HC2 hs1
  go_wp2_with (first | (refine wpList_load_cfg rfl _ rfl _ rfl C2 ?_) | (refine wpList_buildZ rfl rfl (.agg (zmA g (.slice none 0 0))) (by kernel_rfl) ?_) | fail)
  clear c0 C2 HB
  generalize w2.alloc (.cells (zmA g (.slice none 0 0)) 48) = w3 at *
  generalize w2.heap.size = z at *
  go_loopw [20] (fun i wr => ∃ (k : Nat) (ds : Nat → Nat) (mbs : Nat → Nat → Nat) (tbs : Nat → Nat) (v : Value), i = .int .i64 k ∧ k ≤ N ∧ Hid (∀ i, i < k → ds i < wr.heap.size ∧ ∀ q, own6 (mbs i) (tbs i) q → q < wr.heap.size) ∧ CfgAt wr w.heap.size (ofG g) g ∧ ZMk w z k g (fun i => newL (frN g i)) (fun _ => []) ds mbs tbs v wr) (fun i _ => N - (intOf i).toNat)
  case atStart => exact ⟨0, _, _, _, _, rfl, Nat.zero_le _, fun i h => absurd h (Nat.not_lt_zero _), HC3.out, HMK.out⟩
  case round =>
    clear HMK HC3
    obtain ⟨k, ds, mbs, tbs, v, rfl, hk, HLO, hC, hM⟩ := hrel
    have HC := Lib.hid hC
    have HMK := Lib.hid hM
    clear hC hM
    by_cases hlt : k < N
    · have hltI : (k : Int) < (N : Int) := by omega
      have hfr := HG.out.frames k (by have := HN.out; omega)
      have hfe : g (18 + k) = (frN g k : Int) := by unfold frN; omega
      have h1f : 1 ≤ frN g k := by omega
      have h2f : frN g k ≤ 128 := by omega
      obtain ⟨va, vc, hve, _⟩ := owns_slice HMK.out.own
      subst hve
      have ck : wr.cell? ⟨w.heap.size, 18 + k, none⟩ = some (.int .i64 (frN g k)) := by rw [HC.out.cell (18 + k) (by omega), hfe]
      clear hfr hfe
      go_wp2_with (fail)
      refine (new6_any h1f h2f wr).mono ?_
      rintro e w4 ⟨d, mb, tb, rfl, hN4, hd, hq, hb⟩
      have HB4 := Lib.hid hb
      have HN4 := Lib.hid hN4
      have HD4 := Lib.hid hd
      have HQ4 := Lib.hid hq
      have HM4 := Lib.hid (HMK.out.later hb)
      have c94 : w4.cell? ⟨z, 94, none⟩ = some (.slice va k vc) := HM4.out.row.cell 94 (by decide)
      have f94 : w4.frozen? ⟨z, 94, none⟩ = false := HM4.out.row.frozen 94
      have hlt4 := HM4.out.lt
      clear ck hN4 hd hq hb
      go_wp2_with (first | (at_builtin; refine wpList_append_one w4 rfl _ _ 46 rfl (z + 1) 63 i0 _ 1 8 Try.underlying46 hi hz0 hz1' hz2' rfl (by decide) _ _ _ #[.pointer (some ⟨d, 0, none⟩)] HM4.out.own HM4.out.lt rfl rfl rfl (ptr_cell d) (by omega) (by decide) ?_) | fail)
      clear c94 f94
      intro v3 w5 hown3 ho3 _
      have hrow5 := HM4.out.row.only ho3 (fun h => by have := (HM4.out.own.lt _ h).1; omega)
      have c94 : w5.cell? ⟨z, 94, none⟩ = some (.slice va k vc) := hrow5.cell 94 (by decide)
      have f94 : w5.frozen? ⟨z, 94, none⟩ = false := hrow5.frozen 94
      obtain ⟨va3, vc3, hve3, _⟩ := owns_slice hown3
      subst hve3
      have hzw := HMK.out.lt
      have hwz := HMK.out.r1
      have hO : ∀ j, (Value.slice va k vc).ownBlock = some j → j < wr.heap.size := fun j h => (HMK.out.own.lt j h).2
      have HMM := Lib.hid (HM4.out.more HN4.out wr.heap.size HD4.out HQ4.out HLO.out hzw hO (by rw [ptrL_one]; exact hown3) ho3)
      have hsz : wr.heap.size ≤ w5.heap.size := Nat.le_trans HB4.out.size ho3.size
      have hs5 : ∀ q, q < w5.heap.size → q < (w5.setCell ⟨z, 94, none⟩ (.slice va3 (k + 1) vc3)).heap.size := fun q h => by simpa using h
      have HLO2 := Lib.hid (show ∀ i, i < k + 1 → (updN ds k d) i < (w5.setCell ⟨z, 94, none⟩ (.slice va3 (k + 1) vc3)).heap.size ∧ ∀ q, own6 ((updN mbs k mb) i) ((updN tbs k tb) i) q → q < (w5.setCell ⟨z, 94, none⟩ (.slice va3 (k + 1) vc3)).heap.size from fun i hi => by
        have h4 : w4.heap.size ≤ w5.heap.size := ho3.size
        by_cases e : i = k
        · subst e
          rw [updN_same, updN_same, updN_same]
          exact ⟨hs5 _ (Nat.lt_of_lt_of_le HN4.out.lt h4), fun q h => hs5 _ (Nat.lt_of_lt_of_le (HN4.out.own_lt h) h4)⟩
        · rw [updN_other ds e, updN_other mbs e, updN_other tbs e]
          obtain ⟨b1, b2⟩ := HLO.out i (by omega)
          exact ⟨hs5 _ (Nat.lt_of_lt_of_le b1 hsz), fun q h => hs5 _ (Nat.lt_of_lt_of_le (b2 q h) hsz)⟩)
      have HC5 := Lib.hid (show CfgAt (w5.setCell ⟨z, 94, none⟩ (.slice va3 (k + 1) vc3)) w.heap.size (ofG g) g from
        ⟨HC.out.cfg, by
          have hs : Only (fun j => j = z) w5 (w5.setCell ⟨z, 94, none⟩ (.slice va3 (k + 1) vc3)) := Only.setCell (S := fun j => j = z) _ ⟨z, 94, none⟩ rfl _
          have hcl := HC.out.lt
          rw [hs.block _ (by omega) (by omega), ho3.block _ (by have := HB4.out.size; omega) (fun h => by have := (HM4.out.own.lt _ h).1; omega), HB4.out.block _ hcl]
          exact HC.out.block⟩)
      clear hown3 ho3 hrow5 hO hs5
      go_wp2_with (fail)
      clear c94 f94
      go_roundw
      case rel => exact ⟨k + 1, _, _, _, _, by go_num, hlt, HLO2, HC5.out, HMM.out⟩
      case measure => simp [intOf]; omega
    · obtain rfl : k = N := by omega
      go_wp2_with (fail)
      go_ret2
      obtain ⟨Z, hz, hA, hall⟩ := HMK.out.done hN1 HG.out HN.out (fun i hi => by
        have h := HG.out.frames i (by have := HN.out; omega)
        exact inv_new (by unfold frN; omega) (by unfold frN; omega))
      exact ⟨Z, by rw [hz]; rfl, hA, HMK.out.bel, hall⟩
end
/-! zones' law: the known case. -/
section
open Go.RowKit Go

/-- The known case's states and answers. -/
def knS : Nat → (Nat → List (Int × Int)) × (Nat → List (Int × Int))
  | 0 => (fun i => newL (frN twoZ i), fun _ => [])
  | k + 1 => (zTake twoZ 2 (knS k).1 (knS k).2 [1, 0] 1 false).2.2
def knW (k : Nat) : Int := if k = 0 then 4 else if k = 1 then 5 else if k = 2 then 6 else 0
theorem knT : ∀ k, k < 4 → (zTake twoZ 2 (knS k).1 (knS k).2 [1, 0] 1 false).1 = knW k ∧ (zTake twoZ 2 (knS k).1 (knS k).2 [1, 0] 1 false).2.1 = 0 := by decide +kernel
theorem kn_take (k : Nat) (hk : k < 4) : zTake twoZ 2 (knS k).1 (knS k).2 [1, 0] 1 false = (knW k, 0, (knS (k + 1)).1, (knS (k + 1)).2) := by
  obtain ⟨h1, h2⟩ := knT k hk
  exact Prod.ext h1 (Prod.ext h2 rfl)
theorem kn_st1 : zState twoZ 2 (knS 4).1 1 = 0 := by decide +kernel
theorem kn_st0 : zState twoZ 2 (knS 4).1 0 = 2 := by decide +kernel
theorem kn_give : (zGive twoZ 2 (knS 4).1 (knS 4).2 4 0).1 = 0 := by decide +kernel
theorem kn_free : zFree 2 (zGive twoZ 2 (knS 4).1 (knS 4).2 4 0).2.1 1 = 2 := by decide +kernel
theorem kn_index (k : Nat) (hk : k < 4) (W : World) : (Instr.index 67 (.agg #[.int .i64 4, .int .i64 5, .int .i64 6, .int .i64 0]) (.int .i64 k)).run Try.prog W = .ok (.int .i64 (knW k)) W := by
  rcases (show k = 0 ∨ k = 1 ∨ k = 2 ∨ k = 3 by omega) with rfl | rfl | rfl | rfl <;> kernel_rfl
theorem ints_new {w : World} {x y : Int} (hx : -9223372036854775808 ≤ x ∧ x ≤ 9223372036854775807) (hy : -9223372036854775808 ≤ y ∧ y ≤ 9223372036854775807) : IntsIn (w.alloc (.cells #[.int .i64 x, .int .i64 y] 3)) (some ⟨w.heap.size, 0, none⟩) 2 (fun i => if i = 0 then x else y) := fun i hi => by
  rcases (show i = 0 ∨ i = 1 by omega) with rfl | rfl
  · exact ⟨_, _, rfl, by simp [go_sem], hx⟩
  · exact ⟨_, _, rfl, by simp [go_sem], hy⟩
set_option maxRecDepth 100000 in
set_option maxHeartbeats 1000000 in
theorem zknown_any (w : World) : Calls Try.prog 10 #[] w fun e w' => e = .returned (.bool true) ∧ Below w.heap.size w w' := by
  go_enter Try.func10, Try.ntmps10
  go_wp2_with (fail)
  refine (twoZ_any w).mono ?_
  rintro e w1 ⟨A, rfl, hA, hb1⟩
  have HA := Lib.hid hA
  have HB1 := Lib.hid hb1
  clear hA hb1
  go_wp2_with (fail)
  refine (znew6_any A twoZ w1 HA.out twoZ_may).mono ?_
  rintro e w2 ⟨Z, rfl, hZ, hb2, hall⟩
  have HB2 := Lib.hid (HB1.out.trans (hb2.mono HB1.out.size))
  have HZ := Lib.hid (show ZnAt w2 Z twoZ (knS 0).1 (knS 0).2 from hZ)
  have hN2 : Z.N = 2 := by have h := hZ.num; have h2 : twoZ 0 = 2 := rfl; omega
  have hs1 := HB1.out.size
  have HALL := Lib.hid (fun k (h : Z.maps k) => Nat.le_trans hs1 (hall k (ZC.maps_all h)))
  clear hZ hb2 hall
  go_wp2_with (fail)
  go_loopw [19] (fun i wr => ∃ k : Nat, k ≤ 4 ∧ i = .int .i64 k ∧ Hid (ZnAt wr Z twoZ (knS k).1 (knS k).2) ∧ Hid (Below w.heap.size w wr)) (fun i _ => 4 - (intOf i).toNat)
  case atStart => exact ⟨0, by decide, rfl, HZ, HB2⟩
  case round =>
    clear HZ HB2
    obtain ⟨k, hk, rfl, HZ, HB⟩ := hrel
    by_cases hlt : k < 4
    · have hltI : (k : Int) < 4 := by omega
      have hix := kn_index k hlt
      have HT := Lib.hid (kn_take k hlt)
      have HI := Lib.hid (ints_new (w := wr) (x := 1) (y := 0) (by decide) (by decide))
      have ha : Below wr.heap.size wr (wr.alloc (.cells #[.int .i64 1, .int .i64 0] 3)) := (Below.refl _ wr).alloc (Nat.le_refl _) _
      have HZ2 := Lib.hid (HZ.out.later ha)
      have HB3 := Lib.hid (HB.out.trans (ha.mono HB.out.size))
      clear ha HZ
      generalize hx : knW k = x at *
      go_wp2_with (fail)
      clear hix
      refine (ztake6_any HZ2.out (some ⟨wr.heap.size, 0, none⟩) 2 2 _ (by decide) HI.out 1 false).mono ?_
      rintro e w5 ⟨rfl, hZ5, ho5⟩
      have e1 : nodesL (fun i => if i = 0 then (1 : Int) else 0) 2 = [1, 0] := rfl
      rw [hN2, e1, HT.out] at hZ5 ⊢
      have HZ5 := Lib.hid hZ5
      have HB5 := Lib.hid (ho5.below HB3.out HB3.out.size HALL.out)
      clear hZ5 ho5 HI HT
      go_wp2_with (fail)
      go_roundw
      case rel => exact ⟨k + 1, hlt, by go_num, HZ5, HB5⟩
      case measure => simp [intOf]; omega
    · obtain rfl : k = 4 := by omega
      go_wp2_with (fail)
      refine (zstate6_any HZ.out 1).mono ?_
      rintro e w' ⟨rfl, rfl⟩
      rw [hN2, kn_st1]
      go_wp2_with (fail)
      refine (zstate6_any HZ.out 0).mono ?_
      rintro e w' ⟨rfl, rfl⟩
      rw [hN2, kn_st0]
      go_wp2_with (fail)
      refine (zgive6_any HZ.out 4 0 (by decide)).mono ?_
      rintro e w6 ⟨rfl, hZ6, ho6⟩
      rw [hN2] at hZ6 ⊢
      rw [kn_give]
      have HZ6 := Lib.hid hZ6
      have HB6 := Lib.hid (ho6.below HB.out HB.out.size HALL.out)
      clear hZ6 ho6
      go_wp2_with (fail)
      refine (zfree6_any HZ6.out 1).mono ?_
      rintro e w' ⟨rfl, rfl⟩
      rw [hN2, kn_free]
      go_wp2_with (fail)
      go_ret
      exact ⟨rfl, HB6.out⟩
end
/-! A region that draws its order, walked in one given order (XLexH), inside a round. Of no program. -/
section
open Go.RowKit Go

def noDefer (ops : Array Oper) : Bool := ops.all fun o => match o.op with
  | .defer _ => false
  | _ => true
theorem noDefer_at {ops : Array Oper} (h : noDefer ops = true) {i : Nat} {o : Oper} (hi : ops[i]? = some o) : ∀ c, o.op ≠ .defer c := by
  intro c hc
  obtain ⟨hlt, rfl⟩ := Array.getElem?_eq_some_iff.1 hi
  have h2 := Array.all_eq_true.1 h i hlt
  rw [hc] at h2
  cases h2
/-- No panic, and nothing outgrown. -/
def NoEnd (Q : Exit → Act → World → Prop) : Exit → Act → World → Prop
  | .panic _, _, _ => False
  | .outgrown, _, _ => False
  | e, a, w => Q e a w
theorem NoEnd.imp {Q : Exit → Act → World → Prop} : ∀ (e : Exit) (a : Act) (w : World), NoEnd Q e a w → Q e a w := fun e a w h => by
  cases e <;> first | exact h | exact (h : False).elim
section
variable {P : Program} {ops : Array Oper} {Q : Exit → Act → World → Prop} {l n : Nat}
theorem rowsIn_of {m : Nat} {row : String} {args : Array Value} {w : World} {R : Value → World → Prop} (h : Rows P row args w R) : RowsIn (Fence.wide.inRound l) m P row args w R := fun c cs _ =>
  let ⟨v, w2, r, s⟩ := h c cs
  ⟨v, w2, r, stepsIn_wide.2 s⟩
theorem operIn_of {o : Oper} {a : Act} {w : World} {K : Act → World → Prop} (hd : ∀ c, o.op ≠ .defer c) (h : o.wp P a w K Q) : o.wpIn (Fence.wide.inRound l) n P a w K Q := by
  refine ⟨fun _ _ => trivial, ?_⟩
  rw [Oper.semAt_plain _ _ _ hd]
  unfold Oper.wp at h
  generalize (execOp a.eval o).run P w = r at *
  cases r with
  | ok x w' =>
    cases x <;> simp only [Oper.upon, Oper.uponIn] at h ⊢ <;> first
      | exact h
      | exact ⟨fun h2 => (Bool.noConfusion h2), (callsIn_wide (n := n - 1)).2 h⟩
      | exact ⟨fun h2 => (Bool.noConfusion h2), rowsIn_of h⟩
      | exact h.elim
  | halt x w' => cases x <;> simp only [Oper.upon, Oper.uponIn] at h ⊢ <;> first | exact h | exact h.elim
theorem wpOpIn_of {i : Nat} {a : Act} {w : World} {K K' : Act → World → Prop} (hd : noDefer ops = true) (hk : ∀ a w, K a w → K' a w) (h : wpOp P ops (NoEnd Q) i K a w) : wpOpIn (Fence.wide.inRound l) n P ops (NoEnd Q) i K' a w := by
  unfold wpOpIn
  unfold wpOp at h
  split
  · rename_i ho
    rw [ho] at h
    exact hk _ _ h
  · rename_i o ho
    rw [ho] at h
    dsimp only at h
    split
    · rename_i hw
      rw [if_pos hw] at h
      rcases h with h | ⟨_, h⟩
      · exact operIn_of (noDefer_at hd ho) (Oper.wp_mono hk h)
      · obtain ⟨_, _, h⟩ := h
        exact h.elim
    · rename_i hw
      rw [if_neg hw] at h
      exact ⟨fun _ _ => trivial, hk _ _ h⟩
theorem wpAnyIn_of {md : Region.Mode} (hd : noDefer ops = true) : ∀ (fuel : Nat) (listed : Array Bool) (a : Act) (w : World), wpAny P md ops (NoEnd Q) fuel listed a w → wpAnyIn (Fence.wide.inRound l) n P md ops (NoEnd Q) fuel listed a w
  | 0, _, _, _, h => h
  | fuel + 1, _, _, _, h => ⟨h.1, fun i hi => wpOpIn_of hd (fun a' w' h' => wpAnyIn_of hd fuel _ a' w' h') (h.2 i hi)⟩
theorem wpIn_region_lex1 {id : Nat} {l' : List Oper} {a : Act} {w : World} (S : World → Prop) (order : List (Nat × Bool)) (hm : P.follows .mixedOrders = true)
    (hs : Region.noSelect l'.toArray = true) (hd : noDefer l'.toArray = true) (hn : order.length = l'.toArray.size) (hb : schedB .any l'.toArray order (Array.replicate l'.toArray.size false) = true)
    (hS : S w.drew) (h : ∀ W, W = w.drew → S W → LexH P l'.toArray (NoEnd Q) S (Q .normal) order a W) : (Code.region id l'.toArray true).wpIn (Fence.wide.inRound l) n P Q a w :=
  wpIn_mono (wpIn_region_any hm (wpAnyIn_of hd _ _ _ _ (wpAny_of_held _ _ _ _ (hn ▸ wpAnyH_of_lex hs (fun _ _ _ _ _ h => h) order _ a _ hb hS (h _ rfl hS))))) NoEnd.imp
theorem wpIn_region_lexF {id : Nat} {l' : List Oper} {a : Act} {w : World} (S : World → Prop) (order : List (Nat × Bool)) (f : Nat) (hm : P.follows .mixedOrders = true)
    (hs : Region.noSelect l'.toArray = true) (hd : noDefer l'.toArray = true) (hn : order.length + 1 = l'.toArray.size) (hb : schedF .any l'.toArray f order (Array.replicate l'.toArray.size false) = true)
    (hS : S w.drew) (h : ∀ W, W = w.drew → S W → LexH P l'.toArray (NoEnd Q) S (wpOp P l'.toArray (NoEnd Q) f (Q .normal)) order a W) : (Code.region id l'.toArray true).wpIn (Fence.wide.inRound l) n P Q a w :=
  wpIn_mono (wpIn_region_any hm (wpAnyIn_of hd _ _ _ _ (wpAny_of_F _ _ _ _ (hn ▸ wpAnyF_of_lex hs (fun _ _ _ _ _ h => h) order _ a _ hb (Closed.start _ _ _) hS (h _ rfl hS))))) NoEnd.imp
theorem lexI_nil {S : World → Prop} {Q' : Exit → Act → World → Prop} {a : Act} {w : World} (h : Q .normal a w) : LexH P ops Q' S (Q .normal) [] a w := h
theorem lexI_last {S : World → Prop} {a : Act} {w : World} {f : Nat} {o : Oper} (hi : ops[f]? = some o) (hw : Region.wanted o (yielded ops a.tmps) = true) (h : o.wp P a w (fun a' w' => Q .normal a' w') (NoEnd Q)) :
    LexH P ops (NoEnd Q) S (wpOp P ops (NoEnd Q) f (Q .normal)) [] a w := by
  show wpOp P ops (NoEnd Q) f _ a w
  unfold wpOp
  simp only [hi, hw, if_true]
  exact .inl h
end
end
/-! ZonesPlays: do both stand alike? -/
section
open Go.RowKit Go.Shelf Go
attribute [local go_sem] Oper.semAt_some

theorem zblocks_nil (w : World) (a : Value) : (binOp .eql 51 (.func (.func 42) #[] #[a]) .nilFunc).run Try.prog w = .ok (.bool false) w := by kernel_rfl
theorem zblocksfn_any (s : Option Addr) (w : World) :
    Calls Try.prog 20 #[.pointer s] w fun e w' => e = .returned (.func (.func 42) #[] #[.pointer (some ⟨w.heap.size, 0, none⟩)]) ∧ w' = w.alloc (.cells #[.pointer s] 28) := by
  go_enter Try.func20, Try.ntmps20
  go_wp2_with (fail)
  go_ret
  exact ⟨rfl, rfl⟩
/-- What Free and State are to answer. -/
def FreeOk (Z : ZC) (g : Nat → Int) (L T : Nat → List (Int × Int)) : Prop := ∀ (w : World), ZnAt w Z g L T → ∀ i : Int, -1 ≤ i → i ≤ Z.N →
  Calls Try.prog 21 #[.pointer (some ⟨Z.z, 0, none⟩), .int .i64 i] w fun e w' => e = .returned (.int .i64 (zFree Z.N L i)) ∧ Below w.heap.size w w'
def StateOk (Z : ZC) (g : Nat → Int) (L T : Nat → List (Int × Int)) : Prop := ∀ (w : World), ZnAt w Z g L T → ∀ i : Int, -1 ≤ i → i ≤ Z.N →
  Calls Try.prog 22 #[.pointer (some ⟨Z.z, 0, none⟩), .int .i64 i] w fun e w' => e = .returned (.int .i64 (zState g Z.N L i)) ∧ Below w.heap.size w w'
/-- How many have been told: counted in block nb. -/
structure SqAt (W0 : World) (nb : Nat) (n : Nat) (pre : List (Fin n)) (W : World) : Prop where
  ord : pre.map Fin.val = List.range pre.length
  cn : W.cell? ⟨nb, 0, none⟩ = some (.int .i64 pre.length)
  fn : W.frozen? ⟨nb, 0, none⟩ = false
  only : Only (fun k => k = nb) W0 W
theorem sq_own {W0 : World} {nb n : Nat} (_h : nb < W0.heap.size) : OwnOnly W0.heap.size (SqAt W0 nb n) := fun s X Y i ho =>
  ⟨i.ord, ho.cell (by omega) i.cn, by
    rw [World.frozen?_of_block (w := X) (a := ⟨nb, 0, none⟩) (ho.block nb (World.block_lt_of_cell? _ _ i.cn) (by omega))]
    exact i.fn, OwnOnly.only (β := Unit) (Nat.le_refl _) () X Y i.only ho⟩
theorem SqAt.later {W0 W W' : World} {nb n : Nat} {pre : List (Fin n)} (h : SqAt W0 nb n pre W) (hb : Below W.heap.size W W') : SqAt W0 nb n pre W' :=
  ⟨h.ord, by rw [hb.cell (World.block_lt_of_cell? _ _ h.cn)]; exact h.cn, by rw [hb.frozen (World.block_lt_of_cell? _ _ h.cn)]; exact h.fn, h.only.trans (Only.of_below hb)⟩
section
variable {w : World} {Z : ZC} {Zr : ZB} {g : Nat → Int} {L T : Nat → List (Int × Int)}
/-- A range over zones' Blocks whose body breaks off at once. -/
theorem zrange_brk (m : Nat) (hm : 5 ≤ m) (Bn id b : Nat) (hfirst : FirstOk Z g L T) (A : ZnAt w Z g L T) (hBn : w.cell? ⟨Bn, 0, none⟩ = some (.pointer (some ⟨Z.z, 0, none⟩))) {gg : Operand} {t : Tmp} {Q0 : Exit → Act → World → Prop} {a : Act} (hb : b ≠ id)
    (hg : a.eval gg = .func (.func 42) #[] #[.pointer (some ⟨Bn, 0, none⟩)])
    (hdone : ∀ (D : Nat) (W : World), w.heap.size ≤ D → Below w.heap.size w W → W.heap[D]? = some (.deferred (some [])) → Q0 .normal { a with defers := { target := .collected D, args := #[] } :: a.defers } W) :
    (Code.rangeFunc gg #[t] Code.skip (Code.block b (Code.exit id))).wpIn Fence.wide m Try.prog (Exit.inBlock id Q0) a w := by
  have h1 : 1 ≤ m := by omega
  have hsolo := zblocks_solo (m - 1) (by omega) Bn (fun _ => False) hfirst A hBn (fun _ h => h.elim) (fun h => h) (fun _ _ h => h)
  refine range_solo rfl h1 (gf := 42) hg trivial (enters_of Try.func42 (by kernel_rfl) rfl) hsolo KpZ.trans KpZ.put (fun x => rfl)
    (fun _ W => Below w.heap.size w W) (fun c _ W => c = Code.exit id ∧ Below w.heap.size w W) (OwnOnly.below rfl) (fun c s X Y h ho => ⟨h.1, OwnOnly.below (β := Unit) rfl () X Y h.2 ho⟩) (Below.refl _ _)
    (fun l W0 x a' W => a' = { tmps := a.tmps.setIfInBounds t (blk ((zBlocks g L Z.N)[x.val]'x.isLt)), defers := [] } ∧ KpZ (fun _ => False) l W0 W) (fun _ _ _ _ _ _ _ _ h _ _ => ⟨h.1, h.2.trans (KpZ.put _ _ _)⟩) ?assign ?body (fun D xs W hD _ hI hK => hdone D W hD hI hK) ?stop
  case assign =>
    intro l pre x W K hl hI hK
    refine wpIn_skip ?_
    have h := hK _ W (KeepsFrom.refl _ _) hI ⟨rfl, KpZ.of_below (Below.refl _ _)⟩
    simpa [Exit.then] using h
  case body =>
    rintro l pre x a' U0 W hl hI ⟨rfl, hk0⟩ _
    refine wpIn_block ?_
    refine wpIn_exit ?_
    simp only [Exit.inBlock, if_neg (Ne.symm hb)]
    exact ⟨KeepsFrom.refl _ _, hk0, rfl, hI⟩
  case stop =>
    rintro D c pre W hD _ ⟨rfl, hI⟩ hK
    refine wpIn_exit ?_
    simp only [Exit.inBlock, if_true]
    exact hdone D W hD hI hK
set_option maxRecDepth 100000 in
set_option maxHeartbeats 8000000 in
theorem zsame_in (m : Nat) (hm : 5 ≤ m) (hfirst : FirstOk Z g L T) (hfree : FreeOk Z g L T) (hstate : StateOk Z g L T) (A : ZnAt w Z g L T) (R : ZRef w Zr g L T) :
    CallsIn Fence.wide m Try.prog 12 #[.pointer (some ⟨Z.z, 0, none⟩), .pointer (some ⟨Zr.r, 0, none⟩)] w fun e w' => e = .returned (.bool true) ∧ Below w.heap.size w w' := by
  have h1 : 1 ≤ m := by omega
  have hnil := zblocks_nil
  have hNN : Zr.N = Z.N := by have := A.num; have := R.num; omega
  have HA := Lib.hid A
  have HR := Lib.hid R
  have HI := Lib.hid (show ∀ i, i < Zr.N → Inv (frN g i) (L i) (T i) by rw [hNN]; exact A.inv)
  clear A R
  refine callsIn_of_wp_marks Try.func12 rfl trivial ?_ rfl
  simp only [Try.ntmps12, List.size_toArray, List.length_cons, List.length_nil, Nat.reduceAdd, Nat.reduceSub, Array.replicate_succ, Array.replicate_zero, List.push_toArray, List.append_toArray, List.nil_append, List.cons_append]
  refine wpIn_wide.2 ?_
  have ha : Below w.heap.size w (w.alloc (.cells #[.bool false] 4)) := (Below.refl _ w).alloc (Nat.le_refl _) _
  have HR1 := Lib.hid (HR.out.later ha)
  have HA1 := Lib.hid (HA.out.later ha)
  have HRC := Lib.hid (RowAt.new w #[.bool false] 4 1 (fun _ => .bool false) (fun i hi => by
    obtain rfl : i = 0 := by omega
    rfl))
  have HB1 := Lib.hid ha
  have hs1 : (w.alloc (.cells #[.bool false] 4)).heap.size = w.heap.size + 1 := by simp
  clear ha
  go_wp2_with (fail)
  generalize w.alloc (.cells #[.bool false] 4) = w1 at *
  refine (zblocks_any HR1.out HI.out).mono ?_
  rintro e w2 ⟨la, lc, rfl, hrec, hb2⟩
  rw [hNN] at hrec ⊢
  have HREC := Lib.hid hrec
  have HB2 := Lib.hid hb2
  clear hrec hb2
  go_wp2_with (fail)
  refine (zblocksfn_any _ _).mono ?_
  rintro e w' ⟨rfl, rfl⟩
  go_wp2_with (fail)
  refine (zblocksfn_any _ _).mono ?_
  rintro e w' ⟨rfl, rfl⟩
  go_wp2_with (fail)
  rw [show w2.heap.size + 1 + 1 + 1 = w2.heap.size + 3 from rfl, show w2.heap.size + 1 + 1 = w2.heap.size + 2 from rfl]
  obtain ⟨W0, hW0⟩ : ∃ W0, ((((w2.alloc (.cells #[.slice la (zBlocks g L Z.N).length lc] 74)).alloc (.cells #[.int .i64 0] 3)).alloc (.cells #[.pointer (some ⟨Z.z, 0, none⟩)] 28)).alloc (.cells #[.pointer (some ⟨Z.z, 0, none⟩)] 28)) = W0 := ⟨_, rfl⟩
  have hb0 : Below w2.heap.size w2 W0 := by
    rw [← hW0]
    exact ((((Below.refl _ _).alloc (Nat.le_refl _) _).alloc (by simp) _).alloc (by simp; omega) _).alloc (by simp; omega) _
  have hs0 : W0.heap.size = w2.heap.size + 4 := by rw [← hW0]; simp
  have hcl : W0.cell? ⟨w2.heap.size, 0, none⟩ = some (.slice la (zBlocks g L Z.N).length lc) := by rw [← hW0]; simp [go_sem]
  have hcq : W0.cell? ⟨w2.heap.size + 3, 0, none⟩ = some (.pointer (some ⟨Z.z, 0, none⟩)) := by rw [← hW0]; simp [go_sem]
  have hsq : SqAt W0 (w2.heap.size + 1) (zBlocks g L Z.N).length [] W0 := by
    refine ⟨rfl, ?_, ?_, Only.refl _ _⟩ <;> (rw [← hW0]; simp [go_sem])
  rw [hW0]
  have hsz2 := HB2.out.size
  have hb02 : Below w1.heap.size w1 W0 := HB2.out.trans (hb0.mono hsz2)
  have HA0 := Lib.hid (HA1.out.later hb02)
  have HB0 := Lib.hid (show Below w.heap.size w W0 from HB1.out.trans (hb02.mono (by omega)))
  have HR0 := Lib.hid (HR1.out.later hb02)
  have HRC0 := Lib.hid (HRC.out.later hb02)
  have HRE0 := Lib.hid (HREC.out.later hb0)
  have HCL := Lib.hid hcl
  have HAL := Lib.hid (fun k (hk : Z.all k) => HA.out.lt hk)
  have HII := Lib.hid HA.out.inv
  have HPP := Lib.hid (fun i hi => (HA.out.pos i hi).1)
  have HLN := Lib.hid (zBlocks_len HA.out.inv Z.N (Nat.le_refl _))
  have h8 := HA.out.n8
  have HB20 := Lib.hid hb0
  clear hW0 hb0 hb02 hcl HA1 HR1 HRC HB1 HB2
  have hsolo := zblocks_solo (m - 1) (by omega) (w2.heap.size + 3) (fun k => k = w2.heap.size + 1 ∨ k = w.heap.size) hfirst HA0.out hcq (fun k hk => by omega) (by omega) (fun k hk e => by have := HAL.out k hk; omega)
  refine (wpIn_wide (n := m)).1 ?_
  refine range_soloB rfl h1 (gf := 42) (lb := #[.pointer (some ⟨w2.heap.size + 3, 0, none⟩)]) (by simp [go_sem]) trivial (enters_of Try.func42 (by kernel_rfl) rfl) hsolo KpZ.trans
    KpZ.put (fun x => rfl) (SqAt W0 (w2.heap.size + 1) (zBlocks g L Z.N).length) (fun _ pre _ => ¬ ∃ k, k ≤ (zBlocks g L Z.N).length ∧ pre.map Fin.val = List.range k) (sq_own (by omega)) (fun _ _ _ _ h _ => h) hsq
    7 (fun l U0 x zb W' => RowAt W' zb 2 (blkV ((zBlocks g L Z.N)[x.val]'x.isLt).1 ((zBlocks g L Z.N)[x.val]'x.isLt).2) ∧ W0.heap.size ≤ zb ∧ KpZ (fun k => k = w2.heap.size + 1 ∨ k = w.heap.size) l U0 W') (fun l U0 x zb W o o' _ R hl ho => ⟨row_put o' R.1 hl ho, R.2.1, R.2.2.trans (KpZ.put _ _ _)⟩) ?assign ?body ?done (fun _ _ _ _ _ hSp hIx _ => (hIx hSp).elim)
  case assign =>
    intro l pre x V K hl hI hK
    have HK := Lib.hid hK
    have HI := Lib.hid hI
    have HR := Lib.hid (block_row V ((zBlocks g L Z.N)[x.val]'x.isLt).1 ((zBlocks g L Z.N)[x.val]'x.isLt).2)
    have HW := Lib.hid ((Below.refl _ V).alloc (Nat.le_refl _) (.cells #[.int .i64 ((zBlocks g L Z.N)[x.val]'x.isLt).1, .int .i64 ((zBlocks g L Z.N)[x.val]'x.isLt).2] 77))
    clear hK hI hsolo hsq hnil
    simp only [blk]
    gi_wp2_with (fail)
    have h9 := HK.out V.heap.size _ ((KeepsOthers.alloc V _).from _) (HI.out.later HW.out) ⟨HR.out, HI.out.only.size, KpZ.of_below HW.out⟩
    simpa [blk] using h9
  case body =>
    rintro l pre x zb U0 V hl hI ⟨hz, hzb, hk0⟩ hlen
    have HK0 := Lib.hid hk0
    clear hk0
    have hrise := zBlocks_rise HII.out HPP.out Z.N (Nat.le_refl _)
    have hll := HLN.out
    obtain ⟨gb, ela, _, hgl, hr⟩ := HREC.out.get encB_len pre.length hlen
    obtain ⟨q1, hq1⟩ : ∃ q, (zBlocks g L Z.N)[pre.length] = q := ⟨_, rfl⟩
    obtain ⟨y1, y2⟩ := q1
    rw [hq1] at hr
    have k0 : w2.cell? ⟨gb, pre.length * 2, none⟩ = some (.int .i64 y1) := hr 0 _ rfl
    have k1 : w2.cell? ⟨gb, pre.length * 2 + 1, none⟩ = some (.int .i64 y2) := hr 1 _ rfl
    have g0 : V.cell? ⟨gb, pre.length * 2, none⟩ = some (.int .i64 y1) := hI.only.cell (by omega) (by rw [HB20.out.cell (p := ⟨gb, pre.length * 2, none⟩) hgl]; exact k0)
    have g1 : V.cell? ⟨gb, pre.length * 2 + 1, none⟩ = some (.int .i64 y2) := hI.only.cell (by omega) (by rw [HB20.out.cell (p := ⟨gb, pre.length * 2 + 1, none⟩) hgl]; exact k1)
    have cl : V.cell? ⟨w2.heap.size, 0, none⟩ = some (.slice la (zBlocks g L Z.N).length lc) := hI.only.cell (by omega) HCL.out
    obtain ⟨q2, hq2⟩ : ∃ q, (zBlocks g L Z.N)[x.val]'x.isLt = q := ⟨_, rfl⟩
    obtain ⟨x1, x2⟩ := q2
    rw [hq2] at hz
    have Ln := Lib.hid (show ∀ U, U = V.drew → (loadVar 3 ⟨w2.heap.size + 1, 0, none⟩).run Try.prog U = .ok (.int .i64 pre.length) U from fun U hU => run_loadVar_cell (fun _ => by kernel_rfl) (by rw [hU]; exact hI.cn))
    have Ll := Lib.hid (show ∀ U, U = V.drew → (loadVar 74 ⟨w2.heap.size, 0, none⟩).run Try.prog U = .ok (.slice la (zBlocks g L Z.N).length lc) U from fun U hU => run_loadVar_cell (fun _ => by kernel_rfl) (by rw [hU]; exact cl))
    have Lz := Lib.hid (show ∀ U, U = V.drew → (loadVar 77 ⟨zb, 0, none⟩).run Try.prog U = .ok (.agg #[.int .i64 x1, .int .i64 x2]) U from fun U hU => load_block (by rw [hU]; exact hz.cell 0 (by decide)) (by rw [hU]; exact hz.cell 1 (by decide)))
    have Lf := Lib.hid (show ∀ U, U = V.drew → (loadVar 77 ⟨gb, pre.length * 2, none⟩).run Try.prog U = .ok (.agg #[.int .i64 y1, .int .i64 y2]) U from fun U hU => load_block (by rw [hU]; exact g0) (by rw [hU]; exact g1))
    have hd0 : decide (((zBlocks g L Z.N).length : Int) ≤ (pre.length : Int)) = false := decide_eq_false (by omega)
    have hd1 : decide ((zBlocks g L Z.N).length ≤ pre.length) = false := decide_eq_false (by omega)
    have hltI : (pre.length : Int) < ((zBlocks g L Z.N).length : Int) := by omega
    have HI := Lib.hid hI
    subst ela
    clear hr k0 k1 g0 g1 cl hsolo hsq hcq hnil hz
    by_cases hx : x.val = pre.length
    · have exy : ((x1, x2) : Int × Int) = (y1, y2) := by
        rw [← hq1, ← hq2]
        congr 1
      injection exy with ex1 ex2
      subst ex1
      subst ex2
      have cn : V.drew.cell? ⟨w2.heap.size + 1, 0, none⟩ = some (.int .i64 pre.length) := HI.out.cn
      have fn : V.drew.frozen? ⟨w2.heap.size + 1, 0, none⟩ = false := HI.out.fn
      have HO := Lib.hid (show Only (fun k => k = w2.heap.size + 1) V (V.drew.setCell ⟨w2.heap.size + 1, 0, none⟩ (.int .i64 ((pre.length : Int) + 1))) from
        (Only.of_below (Below.refl V.heap.size V).drew).trans (Only.setCell (S := fun k => k = w2.heap.size + 1) _ ⟨w2.heap.size + 1, 0, none⟩ rfl _))
      have HS := Lib.hid (show SqAt W0 (w2.heap.size + 1) (zBlocks g L Z.N).length (pre ++ [x]) (V.drew.setCell ⟨w2.heap.size + 1, 0, none⟩ (.int .i64 ((pre.length : Int) + 1))) from
        ⟨by rw [List.map_append, HI.out.ord, List.length_append, List.length_singleton, List.range_succ, List.map_singleton, hx], by
          rw [World.cell?_setCell_same' _ _ _ (by rw [cn]; rfl), List.length_append]
          rfl, by rw [World.frozen?_setCell]; exact fn, HI.out.only.trans HO.out⟩)
      simp only [blk, hq2]
      clear hx hq1 hq2 hI
      gi_wp2_with (fail)
      go_simp
      refine wpIn_region_lex1 (fun U => U = V.drew) [(0, false), (1, false), (2, false), (3, false), (4, false), (5, false), (6, false), (7, false), (8, false), (9, false), (10, false), (11, false)]
        (by kernel_rfl) (by kernel_rfl) (by kernel_rfl) rfl (by kernel_rfl) rfl ?_
      intro V0 hV0 hK0
      clear hK0
      subst hV0
      refine lexH_load rfl rfl _ _ rfl rfl Ln.out ?_
      simp only [List.getElem_toArray, List.getElem_cons_zero, Act.put, List.setIfInBounds_toArray, List.set_cons_zero, List.set_cons_succ]
      refine lexH_load rfl rfl _ _ rfl rfl Ll.out ?_
      simp only [List.getElem_toArray, List.getElem_cons_succ, List.getElem_cons_zero, Act.put, List.setIfInBounds_toArray, List.set_cons_zero, List.set_cons_succ]
      refine lexH_yieldE rfl rfl ?_
      apply Exists.intro
      refine ⟨fun W hW => ?_, ?_⟩
      focus (go_simp; exact rfl)
      simp only [List.getElem_toArray, List.getElem_cons_succ, List.getElem_cons_zero, Act.put, List.setIfInBounds_toArray, List.set_cons_zero, List.set_cons_succ]
      refine lexH_yieldE rfl rfl ?_
      apply Exists.intro
      refine ⟨fun W hW => ?_, ?_⟩
      focus (go_simp; exact rfl)
      simp only [List.getElem_toArray, List.getElem_cons_succ, List.getElem_cons_zero, Act.put, List.setIfInBounds_toArray, List.set_cons_zero, List.set_cons_succ]
      refine lexH_yieldE rfl rfl ?_
      apply Exists.intro
      refine ⟨fun W hW => ?_, ?_⟩
      focus (go_simp; exact rfl)
      simp only [List.getElem_toArray, List.getElem_cons_succ, List.getElem_cons_zero, Act.put, List.setIfInBounds_toArray, List.set_cons_zero, List.set_cons_succ]
      refine lexH_load rfl rfl _ _ rfl rfl Lz.out ?_
      simp only [List.getElem_toArray, List.getElem_cons_succ, List.getElem_cons_zero, Act.put, List.setIfInBounds_toArray, List.set_cons_zero, List.set_cons_succ]
      refine lexH_load rfl rfl _ _ rfl rfl Ll.out ?_
      simp only [List.getElem_toArray, List.getElem_cons_succ, List.getElem_cons_zero, Act.put, List.setIfInBounds_toArray, List.set_cons_zero, List.set_cons_succ]
      refine lexH_load rfl rfl _ _ rfl rfl Ln.out ?_
      simp only [List.getElem_toArray, List.getElem_cons_succ, List.getElem_cons_zero, Act.put, List.setIfInBounds_toArray, List.set_cons_zero, List.set_cons_succ]
      refine lexH_yieldE rfl rfl ?_
      apply Exists.intro
      refine ⟨fun W hW => ?_, ?_⟩
      focus (go_simp; exact rfl)
      simp only [List.getElem_toArray, List.getElem_cons_succ, List.getElem_cons_zero, Act.put, List.setIfInBounds_toArray, List.set_cons_zero, List.set_cons_succ]
      refine lexH_load rfl rfl _ _ rfl rfl Lf.out ?_
      simp only [List.getElem_toArray, List.getElem_cons_succ, List.getElem_cons_zero, Act.put, List.setIfInBounds_toArray, List.set_cons_zero, List.set_cons_succ]
      refine lexH_yieldE rfl rfl ?_
      apply Exists.intro
      refine ⟨fun W hW => ?_, ?_⟩
      focus (go_simp; exact rfl)
      simp only [List.getElem_toArray, List.getElem_cons_succ, List.getElem_cons_zero, Act.put, List.setIfInBounds_toArray, List.set_cons_zero, List.set_cons_succ]
      refine lexH_yieldE rfl rfl ?_
      apply Exists.intro
      refine ⟨fun W hW => ?_, ?_⟩
      focus (go_simp; exact rfl)
      simp only [List.getElem_toArray, List.getElem_cons_succ, List.getElem_cons_zero, Act.put, List.setIfInBounds_toArray, List.set_cons_zero, List.set_cons_succ]
      refine lexI_nil ?_
      clear Ln Ll Lz Lf hd0 hd1 hltI
      have hpl : pre.length ≤ 1024 := by omega
      gi_wp2_with (fail)
      exact ⟨⟨HO.out.size, fun k o hB hk hc => (HO.out.block k (Array.getElem?_eq_some_iff.1 hk).1 (by omega)).trans hk⟩, HK0.out.trans (KpZ.of_only (HO.out.mono (fun k h => .inl h))), HS.out⟩
    · have h2 := hrise.index x.isLt hlen
      have h3 := hrise.index hlen x.isLt
      rw [hq1, hq2] at h2 h3
      dsimp only at h2 h3
      have hneN : ¬ x1 = y1 := fun e => by omega
      have hneB : (x1 == y1) = false := beq_eq_false_iff_ne.2 hneN
      have hrow := HRC0.out.only HI.out.only (by omega)
      have c4 : V.drew.cell? ⟨w.heap.size, 0, none⟩ = some (.bool false) := hrow.cell 0 (by decide)
      have f4 : V.drew.frozen? ⟨w.heap.size, 0, none⟩ = false := hrow.frozen 0
      have HIX := Lib.hid (show ¬ ∃ k, k ≤ (zBlocks g L Z.N).length ∧ (pre ++ [x]).map Fin.val = List.range k from fun ⟨k, _, hk⟩ => by
        have hk1 := congrArg List.length hk
        simp at hk1
        subst hk1
        rw [List.map_append, HI.out.ord, List.range_succ] at hk
        have := List.append_cancel_left hk
        simp at this
        exact hx this)
      have HO := Lib.hid (show Only (fun k => k = w.heap.size) V (V.drew.setCell ⟨w.heap.size, 0, none⟩ (.bool false)) from
        (Only.of_below (Below.refl V.heap.size V).drew).trans (Only.setCell (S := fun k => k = w.heap.size) _ ⟨w.heap.size, 0, none⟩ rfl _))
      simp only [blk, hq2]
      clear hx hq1 hq2 hI h2 h3 hrow hrise
      gi_wp2_with (fail)
      go_simp
      refine wpIn_region_lex1 (fun U => U = V.drew) [(0, false), (1, false), (2, false), (3, false), (4, false), (5, false), (6, false), (7, false), (8, false), (9, false), (10, false), (11, false)]
        (by kernel_rfl) (by kernel_rfl) (by kernel_rfl) rfl (by kernel_rfl) rfl ?_
      intro V0 hV0 hK0
      clear hK0
      subst hV0
      refine lexH_load rfl rfl _ _ rfl rfl Ln.out ?_
      simp only [List.getElem_toArray, List.getElem_cons_zero, Act.put, List.setIfInBounds_toArray, List.set_cons_zero, List.set_cons_succ]
      refine lexH_load rfl rfl _ _ rfl rfl Ll.out ?_
      simp only [List.getElem_toArray, List.getElem_cons_succ, List.getElem_cons_zero, Act.put, List.setIfInBounds_toArray, List.set_cons_zero, List.set_cons_succ]
      refine lexH_yieldE rfl rfl ?_
      apply Exists.intro
      refine ⟨fun W hW => ?_, ?_⟩
      focus (go_simp; exact rfl)
      simp only [List.getElem_toArray, List.getElem_cons_succ, List.getElem_cons_zero, Act.put, List.setIfInBounds_toArray, List.set_cons_zero, List.set_cons_succ]
      refine lexH_yieldE rfl rfl ?_
      apply Exists.intro
      refine ⟨fun W hW => ?_, ?_⟩
      focus (go_simp; exact rfl)
      simp only [List.getElem_toArray, List.getElem_cons_succ, List.getElem_cons_zero, Act.put, List.setIfInBounds_toArray, List.set_cons_zero, List.set_cons_succ]
      refine lexH_yieldE rfl rfl ?_
      apply Exists.intro
      refine ⟨fun W hW => ?_, ?_⟩
      focus (go_simp; exact rfl)
      simp only [List.getElem_toArray, List.getElem_cons_succ, List.getElem_cons_zero, Act.put, List.setIfInBounds_toArray, List.set_cons_zero, List.set_cons_succ]
      refine lexH_load rfl rfl _ _ rfl rfl Lz.out ?_
      simp only [List.getElem_toArray, List.getElem_cons_succ, List.getElem_cons_zero, Act.put, List.setIfInBounds_toArray, List.set_cons_zero, List.set_cons_succ]
      refine lexH_load rfl rfl _ _ rfl rfl Ll.out ?_
      simp only [List.getElem_toArray, List.getElem_cons_succ, List.getElem_cons_zero, Act.put, List.setIfInBounds_toArray, List.set_cons_zero, List.set_cons_succ]
      refine lexH_load rfl rfl _ _ rfl rfl Ln.out ?_
      simp only [List.getElem_toArray, List.getElem_cons_succ, List.getElem_cons_zero, Act.put, List.setIfInBounds_toArray, List.set_cons_zero, List.set_cons_succ]
      refine lexH_yieldE rfl rfl ?_
      apply Exists.intro
      refine ⟨fun W hW => ?_, ?_⟩
      focus (go_simp; exact rfl)
      simp only [List.getElem_toArray, List.getElem_cons_succ, List.getElem_cons_zero, Act.put, List.setIfInBounds_toArray, List.set_cons_zero, List.set_cons_succ]
      refine lexH_load rfl rfl _ _ rfl rfl Lf.out ?_
      simp only [List.getElem_toArray, List.getElem_cons_succ, List.getElem_cons_zero, Act.put, List.setIfInBounds_toArray, List.set_cons_zero, List.set_cons_succ]
      refine lexH_yieldE rfl rfl ?_
      apply Exists.intro
      refine ⟨fun W hW => ?_, ?_⟩
      focus (go_simp; exact rfl)
      simp only [List.getElem_toArray, List.getElem_cons_succ, List.getElem_cons_zero, Act.put, List.setIfInBounds_toArray, List.set_cons_zero, List.set_cons_succ]
      refine lexH_yieldE rfl rfl ?_
      apply Exists.intro
      refine ⟨fun W hW => ?_, ?_⟩
      focus (go_simp; exact rfl)
      simp only [List.getElem_toArray, List.getElem_cons_succ, List.getElem_cons_zero, Act.put, List.setIfInBounds_toArray, List.set_cons_zero, List.set_cons_succ]
      refine lexI_nil ?_
      clear Ln Ll Lz Lf hd0 hd1 hltI hneB hneN
      gi_wp2_with (fail)
      exact ⟨⟨HO.out.size, fun k o hB hk hc => (HO.out.block k (Array.getElem?_eq_some_iff.1 hk).1 (by omega)).trans hk⟩, HK0.out.trans (KpZ.of_only (HO.out.mono (fun k h => .inr h))), HIX.out⟩
  case done =>
    rintro D xs V hD hxs hI hDk
    have hxl : xs.length = (zBlocks g L Z.N).length := by
      have := congrArg List.length hxs
      simpa using this
    have hcn := hI.cn
    rw [hxl] at hcn
    have HCN := Lib.hid hcn
    have HAV := Lib.hid (HA0.out.only hI.only (fun k hk h => by have := HAL.out k hk; omega))
    have HBV := Lib.hid (show Below w.heap.size w V from hI.only.below HB0.out HB0.out.size (fun k hk => by omega))
    have HRV := Lib.hid (HR.out.later HBV.out)
    have hrow := HRC0.out.only hI.only (by omega)
    have HRCV := Lib.hid hrow
    have HCLV := Lib.hid (show V.cell? ⟨w2.heap.size, 0, none⟩ = some (.slice la (zBlocks g L Z.N).length lc) from hI.only.cell (by omega) HCL.out)
    have hsV := hI.only.size
    clear hsolo hsq hcq hI hcn hrow
    go_wp2_with (fail)
    refine (zblocksfn_any _ _).mono ?_
    rintro e w' ⟨rfl, rfl⟩
    go_wp2_with (fail)
    refine (zblocksfn_any _ _).mono ?_
    rintro e w' ⟨rfl, rfl⟩
    go_wp2_with (fail)
    obtain ⟨V5, hV5⟩ : ∃ V5, ((V.alloc (.cells #[.pointer (some ⟨Z.z, 0, none⟩)] 28)).alloc (.cells #[.pointer (some ⟨Z.z, 0, none⟩)] 28)) = V5 := ⟨_, rfl⟩
    have hb5 : Below V.heap.size V V5 := by rw [← hV5]; exact ((Below.refl _ _).alloc (Nat.le_refl _) _).alloc (by simp) _
    have hs5 : V5.heap.size = V.heap.size + 2 := by rw [← hV5]; simp
    have hc5 : V5.cell? ⟨V.heap.size + 1, 0, none⟩ = some (.pointer (some ⟨Z.z, 0, none⟩)) := by rw [← hV5]; simp [go_sem]
    rw [hV5]
    have HB5 := Lib.hid hb5
    clear hV5 hb5 hnil
    refine (wpIn_wide (n := m)).1 ?_
    refine zrange_brk m (by omega) (V.heap.size + 1) 2 3 hfirst (HAV.out.later HB5.out) hc5 (by decide) (by simp [go_sem]) (fun D2 W2 hD2 hb2 hk2 => ?_)
    have HB6 := Lib.hid (show Below V.heap.size V W2 from HB5.out.trans (hb2.mono HB5.out.size))
    have HK2 := Lib.hid hk2
    have hDV : D < V.heap.size := (Array.getElem?_eq_some_iff.1 hDk).1
    have HKD := Lib.hid (show W2.heap[D]? = some (.deferred (some [])) from (HB6.out.block D hDV).trans hDk)
    have HBW := Lib.hid (show Below w.heap.size w W2 from HBV.out.trans (HB6.out.mono HBV.out.size))
    have HAW := Lib.hid (HAV.out.later HB6.out)
    have HRW := Lib.hid (HRV.out.later HB6.out)
    clear hc5 hb2 hk2 hDk
    go_wp2_with (fail)
    go_loopw [8] (fun i wx => ∃ q : Nat, i = .int .i64 ((q : Int) - 1) ∧ q ≤ Z.N + 2 ∧ Below W2.heap.size W2 wx) (fun i _ => Z.N + 2 - (intOf i + 1).toNat)
    case atStart => exact ⟨0, rfl, by omega, Below.refl _ _⟩
    case round =>
      obtain ⟨q, rfl, hq, hbx⟩ := hrel
      have HBX := Lib.hid hbx
      clear hbx
      have c94 := (HRW.out.later HBX.out).c94
      rw [hNN] at c94
      by_cases hlt : q ≤ Z.N + 1
      · obtain ⟨i, hi⟩ : ∃ i, (q : Int) - 1 = i := ⟨_, rfl⟩
        have hi1 : -1 ≤ i := by omega
        have hi2 : i ≤ (Z.N : Int) := by omega
        have hi3 : i + 1 = (q : Int) := by omega
        have HQ := Lib.hid (show i + 1 = ((q + 1 : Nat) : Int) - 1 by omega)
        rw [hi]
        clear hi hi3
        go_wp2_with (fail)
        refine (hfree wr (HAW.out.later HBX.out) i hi1 hi2).mono ?_
        rintro e w5 ⟨rfl, hb⟩
        have HX5 := Lib.hid (HBX.out.trans (hb.mono HBX.out.size))
        clear hb c94
        go_wp2_with (fail)
        refine (zfree_any (HRW.out.later HX5.out) HI.out i).mono ?_
        rintro e w' ⟨rfl, rfl⟩
        rw [hNN]
        generalize zFree Z.N L i = f at *
        go_wp2_with (fail)
        refine (hstate w5 (HAW.out.later HX5.out) i hi1 hi2).mono ?_
        rintro e w6 ⟨rfl, hb⟩
        have HX6 := Lib.hid (HX5.out.trans (hb.mono HX5.out.size))
        clear hb
        go_wp2_with (fail)
        refine (zstate_any (HRW.out.later HX6.out) HI.out i).mono ?_
        rintro e w' ⟨rfl, rfl⟩
        rw [hNN]
        generalize zState g Z.N L i = s at *
        go_wp2_with (fail)
        go_roundw
        case rel => exact ⟨q + 1, by rw [← HQ.out], by omega, HX6.out⟩
        case measure =>
          have := HQ.out
          simp [intOf]
          omega
      · obtain rfl : q = Z.N + 2 := by omega
        have hgt : ¬ (((Z.N + 2 : Nat) : Int) - 1 ≤ (Z.N : Int)) := by omega
        have hbv : Below V.heap.size V wr := HB6.out.trans (HBX.out.mono HB6.out.size)
        have HBV9 := Lib.hid hbv
        have cn : wr.cell? ⟨w2.heap.size + 1, 0, none⟩ = some (.int .i64 (zBlocks g L Z.N).length) := by rw [hbv.cell (World.block_lt_of_cell? _ _ HCN.out)]; exact HCN.out
        have cl : wr.cell? ⟨w2.heap.size, 0, none⟩ = some (.slice la (zBlocks g L Z.N).length lc) := by rw [hbv.cell (World.block_lt_of_cell? _ _ HCLV.out)]; exact HCLV.out
        have hrow := HRCV.out.later hbv
        have cr : wr.cell? ⟨w.heap.size, 0, none⟩ = some (.bool false) := hrow.cell 0 (by decide)
        have fr : wr.frozen? ⟨w.heap.size, 0, none⟩ = false := hrow.frozen 0
        have HRow9 := Lib.hid (hrow.setCell 0 (.bool true))
        have HB9 := Lib.hid ((HBW.out.trans (HBX.out.mono HBW.out.size)).setCell (p := ⟨w.heap.size, 0, none⟩) (Nat.le_refl _) (.bool true))
        have HD9 := Lib.hid (show wr.heap[D]? = some (.deferred (some [])) ∧ wr.heap[D2]? = some (.deferred (some [])) from ⟨(hbv.block D hDV).trans ((HB6.out.block D hDV).symm.trans HKD.out), (HBX.out.block D2 (Array.getElem?_eq_some_iff.1 HK2.out).1).trans HK2.out⟩)
        have hDD : D2 ≠ D := by omega
        clear hbv hrow
        go_wp2_with (fail)
        have hcell : ∀ E ∈ [D2, D], E ≠ w.heap.size := fun E hE => by
          rcases List.mem_cons.1 hE with rfl | hE
          · omega
          · rw [List.mem_singleton] at hE
            omega
        refine leaves_many [D2, D] _ ?_ (fun E hE => ?_) (fun W' ho2 hs2 => ⟨.bool true, ?_, rfl, ?_⟩)
        · simp only [List.nodup_cons, List.mem_singleton, List.not_mem_nil, not_false_eq_true, List.nodup_nil, and_true]
          exact hDD
        · rw [Below.heap_setCell _ _ _ _ (hcell E hE)]
          rcases List.mem_cons.1 hE with rfl | hE
          · exact HD9.out.2
          · rw [List.mem_singleton] at hE
            subst hE
            exact HD9.out.1
        · have hc := ho2.cell (b := w.heap.size) (o := 0) (v := .bool true) (fun hD => hcell _ hD rfl) (HRow9.out.cell 0 (by decide))
          simp [results, Try.f12, go_sem, hc]
        · exact ho2.below HB9.out HB9.out.size (fun E hE => by
            rcases List.mem_cons.1 hE with h | h
            · omega
            · rw [List.mem_singleton] at h
              omega)
/-- Do both stand alike: yes. -/
theorem zsame_any (m : Nat) (hm : 5 ≤ m) (A : ZnAt w Z g L T) (R : ZRef w Zr g L T) :
    CallsIn Fence.wide m Try.prog 12 #[.pointer (some ⟨Z.z, 0, none⟩), .pointer (some ⟨Zr.r, 0, none⟩)] w fun e w' => e = .returned (.bool true) ∧ Below w.heap.size w w' :=
  zsame_in m hm zfirst6_any (fun W X i _ _ => (zfree6_any X i).mono fun e W' h => ⟨h.1, by rw [← h.2]; exact Below.refl _ _⟩) (fun W X i _ _ => (zstate6_any X i).mono fun e W' h => ⟨h.1, by rw [← h.2]; exact Below.refl _ _⟩) A R
end
end
/-! zones that are not there, or were not made. -/
section
open Go.RowKit Go.Shelf Go
attribute [local go_sem] Oper.semAt_some

/-- Zero zones: the cells. -/
def zeroZA : Array Value := (Array.replicate 94 (.int .i64 0)).push (.slice none 0 0)
set_option maxRecDepth 100000 in
theorem zero_zones (W : World) : (zeroValue 48).run Try.prog W = .ok (.agg zeroZA) W := by kernel_rfl
def zeroZ (i : Nat) : Value := if i < 94 then .int .i64 0 else .slice none 0 0
theorem zeroZA_at : ∀ i, i < 95 → zeroZA[i]? = some (zeroZ i) := by
  intro i hi
  unfold zeroZA zeroZ
  by_cases h : i < 94
  · rw [if_pos h, Array.getElem?_push, if_neg (by simp; omega), Array.getElem?_replicate, if_pos h]
  · rw [if_neg h]
    obtain rfl : i = 94 := by omega
    rw [Array.getElem?_push, if_pos (by simp)]
def ZGone (W : World) (q : Option Addr) : Prop := q = none ∨ ∃ d, q = some ⟨d, 0, none⟩ ∧ RowAt W d 95 zeroZ
theorem ZGone.later {W W' : World} {q : Option Addr} (h : ZGone W q) (hb : Below W.heap.size W W') : ZGone W' q := by
  rcases h with rfl | ⟨d, rfl, R⟩
  · exact .inl rfl
  · exact .inr ⟨d, rfl, R.later hb⟩
section
variable {w : World} {q : Option Addr}
theorem zmissing_gone (h : ZGone w q) : Calls Try.prog 31 #[.pointer q] w fun e w' => e = .returned (.bool true) ∧ w = w' := by
  rcases h with rfl | ⟨d, rfl, R⟩
  · go_enter Try.func31, Try.ntmps31
    go_wp2_with (fail)
    go_ret
    exact ⟨rfl, rfl⟩
  · have c0 : w.cell? ⟨d, 94, none⟩ = some (.slice none 0 0) := R.cell 94 (by decide)
    go_enter Try.func31, Try.ntmps31
    go_wp2_with (fail)
    go_ret
    exact ⟨rfl, rfl⟩
theorem zhas_gone (h : ZGone w q) (i : Int) : Calls Try.prog 33 #[.pointer q, .int .i64 i] w fun e w' => e = .returned (.bool false) ∧ w = w' := by
  rcases h with rfl | ⟨d, rfl, R⟩
  · go_enter Try.func33, Try.ntmps33
    go_wp2_with (fail)
    go_ret
    exact ⟨rfl, rfl⟩
  · have c0 : w.cell? ⟨d, 94, none⟩ = some (.slice none 0 0) := R.cell 94 (by decide)
    by_cases h0 : 0 ≤ i
    · have h1 : ¬ i < 0 := by omega
      go_enter Try.func33, Try.ntmps33
      go_wp2_with (fail)
      go_ret
      exact ⟨rfl, rfl⟩
    · go_enter Try.func33, Try.ntmps33
      go_wp2_with (fail)
      go_ret
      exact ⟨rfl, rfl⟩
theorem ztake_gone (h : ZGone w q) (s : Value) (floor : Int) (high : Bool) : Calls Try.prog 13 #[.pointer q, s, .int .i64 floor, .bool high] w fun e w' => e = .returned (.tuple #[.int .i64 0, .int .i64 1]) ∧ w = w' := by
  go_enter Try.func13, Try.ntmps13
  go_wp2_with (fail)
  refine (zmissing_gone h).mono ?_
  rintro e w' ⟨rfl, rfl⟩
  go_wp2_with (fail)
  go_ret2
  exact ⟨rfl, rfl⟩
theorem ztakeof_gone (h : ZGone w q) (node order : Int) (high : Bool) : Calls Try.prog 15 #[.pointer q, .int .i64 node, .int .i64 order, .bool high] w fun e w' => e = .returned (.tuple #[.int .i64 0, .int .i64 1]) ∧ w = w' := by
  go_enter Try.func15, Try.ntmps15
  go_wp2_with (fail)
  refine (zmissing_gone h).mono ?_
  rintro e w' ⟨rfl, rfl⟩
  go_wp2_with (fail)
  go_ret2
  exact ⟨rfl, rfl⟩
theorem zgive_gone (h : ZGone w q) (x o : Int) : Calls Try.prog 17 #[.pointer q, .int .i64 x, .int .i64 o] w fun e w' => e = .returned (.int .i64 1) ∧ w = w' := by
  go_enter Try.func17, Try.ntmps17
  go_wp2_with (fail)
  refine (zmissing_gone h).mono ?_
  rintro e w' ⟨rfl, rfl⟩
  go_wp2_with (fail)
  go_ret
  exact ⟨rfl, rfl⟩
theorem zcopy_gone (h : ZGone w q) : Calls Try.prog 19 #[.pointer q] w fun e w' => e = .returned (.pointer none) ∧ w = w' := by
  go_enter Try.func19, Try.ntmps19
  go_wp2_with (fail)
  refine (zmissing_gone h).mono ?_
  rintro e w' ⟨rfl, rfl⟩
  go_wp2_with (fail)
  go_ret
  exact ⟨rfl, rfl⟩
theorem zfree_gone (h : ZGone w q) (i : Int) : Calls Try.prog 21 #[.pointer q, .int .i64 i] w fun e w' => e = .returned (.int .i64 0) ∧ w = w' := by
  go_enter Try.func21, Try.ntmps21
  go_wp2_with (fail)
  refine (zhas_gone h i).mono ?_
  rintro e w' ⟨rfl, rfl⟩
  go_wp2_with (fail)
  go_ret
  exact ⟨rfl, rfl⟩
theorem zstate_gone (h : ZGone w q) (i : Int) : Calls Try.prog 22 #[.pointer q, .int .i64 i] w fun e w' => e = .returned (.int .i64 0) ∧ w = w' := by
  have hf := zfree_gone h i
  rcases h with rfl | ⟨d, rfl, R⟩
  · go_enter Try.func22, Try.ntmps22
    go_wp2_with (fail)
    go_ret
    exact ⟨rfl, rfl⟩
  · have HF := Lib.hid hf
    have c91 : w.cell? ⟨d, 91, none⟩ = some (.int .i64 0) := R.cell 91 (by decide)
    have c92 : w.cell? ⟨d, 92, none⟩ = some (.int .i64 0) := R.cell 92 (by decide)
    have c93 : w.cell? ⟨d, 93, none⟩ = some (.int .i64 0) := R.cell 93 (by decide)
    clear hf
    go_enter Try.func22, Try.ntmps22
    go_wp2_with (fail)
    refine HF.out.mono ?_
    rintro e w' ⟨rfl, rfl⟩
    go_wp2_with (fail)
    go_ret
    exact ⟨rfl, rfl⟩
set_option maxRecDepth 100000 in
theorem zgone_in (m : Nat) (_hm : 1 ≤ m) (l Bn : Nat) (q : Option Addr) (w0 : World) (h : ZGone w0 q) (hc : w0.cell? ⟨Bn, 0, none⟩ = some (.pointer q)) :
    CallsIn Fence.wide m Try.prog 42 #[.func (.yield l) #[] #[], .pointer (some ⟨Bn, 0, none⟩)] w0 fun e W' => (∃ v, e = .returned v) ∧ Below w0.heap.size w0 W' := by
  have hBl := World.block_lt_of_cell? _ _ hc
  have ha : Below w0.heap.size w0 (w0.alloc (.cells #[.func (.yield l) #[] #[]] 83)) := (Below.refl _ w0).alloc (Nat.le_refl _) _
  have HA := Lib.hid ha
  have c1 : (w0.alloc (.cells #[.func (.yield l) #[] #[]] 83)).cell? ⟨Bn, 0, none⟩ = some (.pointer q) := by rw [ha.cell hBl]; exact hc
  clear hc
  refine callsIn_of_wp_marks Try.func42 rfl trivial ?_ rfl
  simp only [Try.ntmps42, List.size_toArray, List.length_cons, List.length_nil, Nat.reduceAdd, Nat.reduceSub, Array.replicate_succ, Array.replicate_zero, List.push_toArray, List.append_toArray, List.nil_append, List.cons_append]
  refine wpIn_wide.2 ?_
  rcases h with rfl | ⟨d, rfl, R⟩
  · go_wp2_with (fail)
    generalize w0.alloc (.cells #[.func (.yield l) #[] #[]] 83) = W1 at *
    go_step3
    go_wp2_with (fail)
    refine ⟨.tuple #[], ?_, ⟨_, rfl⟩, HA.out⟩
    simp [results, Try.f42, go_sem]
  · have c94 : (w0.alloc (.cells #[.func (.yield l) #[] #[]] 83)).cell? ⟨d, 94, none⟩ = some (.slice none 0 0) := (R.later ha).cell 94 (by decide)
    clear ha R
    go_wp2_with (fail)
    generalize w0.alloc (.cells #[.func (.yield l) #[] #[]] 83) = W1 at *
    go_step3
    go_wp2_with (fail)
    go_step3
    go_wp2_with (fail)
    refine (wpIn_wide (n := m)).1 ?_
    refine wpIn_loop_rounds 1 ?_
    rw [roundsIn_succ]
    refine wpIn_wide.2 ?_
    go_wp2_with (fail)
    refine ⟨.tuple #[], ?_, ⟨_, rfl⟩, HA.out⟩
    simp [results, Try.f42, go_sem]
/-- A range over Blocks of zones that are not there: its body is never come to. -/
theorem zrange_gone (m : Nat) (hm : 3 ≤ m) (Bn : Nat) (q : Option Addr) {g : Operand} {ps : Array Tmp} {assign body : Code} {Q : Exit → Act → World → Prop} {a : Act} {w : World}
    (hg : a.eval g = .func (.func 42) #[] #[.pointer (some ⟨Bn, 0, none⟩)]) (hBn : w.cell? ⟨Bn, 0, none⟩ = some (.pointer q)) (hG : ZGone w q)
    (hdone : ∀ (D : Nat) (W : World), w.heap.size ≤ D → Below w.heap.size w W → W.heap[D]? = some (.deferred (some [])) → Q .normal { a with defers := { target := .collected D, args := #[] } :: a.defers } W) :
    (Code.rangeFunc g ps assign body).wpIn Fence.wide m Try.prog Q a w := by
  have h1 : 1 ≤ m := by omega
  have hlt : Bn < w.heap.size := World.block_lt_of_cell? w ⟨Bn, 0, none⟩ hBn
  have hseq : SeqStopsK Fence.wide (m - 1) Try.prog 42 #[.pointer (some ⟨Bn, 0, none⟩)] (fun x : Empty => (nomatch x : Array Value)) (Below w.heap.size) (fun xs => xs = []) (fun _ => False) 0 w := by
    intro l J Jx W hW hJ _ _ hJ0
    refine (zgone_in (m - 1) (by omega) l Bn q W (hG.later hW) (by rw [hW.cell (p := ⟨Bn, 0, none⟩) hlt]; exact hBn)).mono ?_
    rintro e W' ⟨h1, hb⟩
    exact ⟨h1, .inl ⟨[], rfl, hJ [] W _ none hJ0 (grown_none hb) (fun r e => by cases e)⟩⟩
  refine wpIn_rangeFunc_ownF rfl h1 (gf := 42) hg trivial (enters_of Try.func42 (by kernel_rfl) rfl) hseq belowK_t (belowK_b (Nat.le_refl _)) (Below.refl _ _) (fun x => nomatch x)
    (fun _ W => Below w.heap.size w W) (fun _ _ _ => False) (ownFrom_below (Nat.le_refl _) (Nat.le_refl _)) (fun _ _ _ _ _ hs _ _ => hs) (Below.refl _ _) (fun x => nomatch x)
    (fun _ x => nomatch x) (fun _ _ x => nomatch x) (fun D xs W hD _ hI hK => hdone D W hD hI hK) (fun _ _ _ _ _ _ h => h.elim)
end
end
/-! The walk of ZonesNone: it returns true, and below the old heap nothing has turned. -/
section
open Go.RowKit Go.Shelf Go
attribute [local go_sem] Oper.semAt_some

/-- What lies while the law goes on. -/
structure NzAt (B : Nat) (o : OpZ) (w W : World) : Prop where
  bel : Below B w W
  box : RowAt W B 6 (ozV o)
  res : RowAt W (B + 1) 1 (fun _ => .bool false)
  zer : RowAt W (B + 2) 95 zeroZ
  lst : RowAt W (B + 3) 2 (fun i => if i = 0 then .pointer none else .pointer (some ⟨B + 2, 0, none⟩))
theorem NzAt.le {B : Nat} {o : OpZ} {w W : World} (N : NzAt B o w W) : B + 4 ≤ W.heap.size := by
  have := N.lst.lt
  omega
theorem NzAt.next {B : Nat} {o : OpZ} {w W W' : World} (N : NzAt B o w W) (h : Below W.heap.size W W') : NzAt B o w W' := by
  have := N.le
  exact ⟨N.bel.trans (h.mono (by omega)), N.box.later h, N.res.later h, N.zer.later h, N.lst.later h⟩
theorem NzAt.gone {B : Nat} {o : OpZ} {w W : World} (N : NzAt B o w W) : ZGone W (some ⟨B + 2, 0, none⟩) := .inr ⟨B + 2, rfl, N.zer⟩
set_option maxRecDepth 100000 in
set_option maxHeartbeats 8000000 in
theorem lawZNone_in (m : Nat) (hm : 3 ≤ m) (o : OpZ) (w : World) :
    CallsIn Fence.wide m Try.prog 4 #[.agg o.arr] w fun e w' => e = .returned (.bool true) ∧ Below w.heap.size w w' := by
  have h1 : 1 ≤ m := by omega
  obtain ⟨kind, node, order, floor, nds, len, cap, high, z⟩ := o
  have hnil := zblocks_nil
  have hzz := zero_zones
  have ha1 : Below w.heap.size w (w.alloc (.cells (OpZ.arr ⟨kind, node, order, floor, nds, len, cap, high, z⟩) 39)) := (Below.refl _ w).alloc (Nat.le_refl _) _
  have hb2 : Below w.heap.size w ((w.alloc (.cells (OpZ.arr ⟨kind, node, order, floor, nds, len, cap, high, z⟩) 39)).alloc (.cells #[.bool false] 4)) := ha1.alloc (by simp) _
  have HBOX := Lib.hid ((RowAt.new w _ 39 6 _ (oz_at ⟨kind, node, order, floor, nds, len, cap, high, z⟩)).alloc (.cells #[.bool false] 4))
  have HRES := Lib.hid (show RowAt ((w.alloc (.cells (OpZ.arr ⟨kind, node, order, floor, nds, len, cap, high, z⟩) 39)).alloc (.cells #[.bool false] 4)) (w.heap.size + 1) 1 (fun _ => .bool false) by
    have h := RowAt.new (w.alloc (.cells (OpZ.arr ⟨kind, node, order, floor, nds, len, cap, high, z⟩) 39)) #[.bool false] 4 1 (fun _ => .bool false) (fun i hi => by
      obtain rfl : i = 0 := by omega
      rfl)
    rw [show (w.alloc (.cells (OpZ.arr ⟨kind, node, order, floor, nds, len, cap, high, z⟩) 39)).heap.size = w.heap.size + 1 by simp] at h
    exact h)
  have hs2 : ((w.alloc (.cells (OpZ.arr ⟨kind, node, order, floor, nds, len, cap, high, z⟩) 39)).alloc (.cells #[.bool false] 4)).heap.size = w.heap.size + 2 := by simp
  have HB2 := Lib.hid hb2
  clear ha1 hb2
  refine callsIn_of_wp_marks Try.func4 rfl trivial ?_ rfl
  simp only [Try.ntmps4, List.size_toArray, List.length_cons, List.length_nil, Nat.reduceAdd, Nat.reduceSub, Array.replicate_succ, Array.replicate_zero, List.push_toArray, List.append_toArray, List.nil_append, List.cons_append]
  refine wpIn_wide.2 ?_
  unfold OpZ.arr at *
  dsimp only at *
  by_cases hl : len ≤ 50
  · have hl2 : ¬ (50 < (len : Int)) := by omega
    go_wp2_with (fail)
    generalize (w.alloc (.cells #[.int .i64 kind, .int .i64 node, .int .i64 order, .int .i64 floor, .slice nds len cap, .bool high] 39)).alloc (.cells #[.bool false] 4) = w2 at *
    have hs2' : w2.heap.size = w.heap.size + 2 := hs2
    have ha3 : Below w2.heap.size w2 (w2.alloc (.cells zeroZA 48)) := (Below.refl _ w2).alloc (Nat.le_refl _) _
    have ha4 : Below w2.heap.size w2 ((w2.alloc (.cells zeroZA 48)).alloc (.cells #[.pointer none, .pointer (some ⟨w.heap.size + 2, 0, none⟩)] 28)) := ha3.alloc (by simp) _
    have HN0 := Lib.hid (show NzAt w.heap.size ⟨kind, node, order, floor, nds, len, cap, high, z⟩ w ((w2.alloc (.cells zeroZA 48)).alloc (.cells #[.pointer none, .pointer (some ⟨w.heap.size + 2, 0, none⟩)] 28)) from by
      refine ⟨HB2.out.trans (ha4.mono HB2.out.size), HBOX.out.later ha4, HRES.out.later ha4, ?_, ?_⟩
      · have h := (RowAt.new w2 zeroZA 48 95 _ zeroZA_at).alloc (.cells #[.pointer none, .pointer (some ⟨w.heap.size + 2, 0, none⟩)] 28)
        rw [hs2] at h
        exact h
      · have h := RowAt.new (w2.alloc (.cells zeroZA 48)) #[.pointer none, .pointer (some ⟨w.heap.size + 2, 0, none⟩)] 28 2 (fun i => if i = 0 then .pointer none else .pointer (some ⟨w.heap.size + 2, 0, none⟩)) (fun i hi => by
          rcases (show i = 0 ∨ i = 1 by omega) with rfl | rfl <;> rfl)
        rw [show (w2.alloc (.cells zeroZA 48)).heap.size = w.heap.size + 3 by simp [hs2]] at h
        exact h)
    clear ha3 ha4 HBOX HRES HB2 hs2 hs2' hzz
    generalize (w2.alloc (.cells zeroZA 48)).alloc (.cells #[.pointer none, .pointer (some ⟨w.heap.size + 2, 0, none⟩)] 28) = W0 at *
    rw [show w.heap.size + 2 + 1 = w.heap.size + 3 from rfl]
    refine (wpIn_wide (n := m)).1 ?_
    refine wpIn_loop_rounds 3 ?_
    have cl : W0.cell? ⟨w.heap.size + 3, 0, none⟩ = some (.pointer none) := HN0.out.lst.cell 0 (by decide)
    have x1 : W0.cell? ⟨w.heap.size, 1, none⟩ = some (.int .i64 node) := HN0.out.box.cell 1 (by decide)
    have x2 : W0.cell? ⟨w.heap.size, 2, none⟩ = some (.int .i64 order) := HN0.out.box.cell 2 (by decide)
    have x3 : W0.cell? ⟨w.heap.size, 3, none⟩ = some (.int .i64 floor) := HN0.out.box.cell 3 (by decide)
    have x4 : W0.cell? ⟨w.heap.size, 4, none⟩ = some (.slice nds len cap) := HN0.out.box.cell 4 (by decide)
    have x5 : W0.cell? ⟨w.heap.size, 5, none⟩ = some (.bool high) := HN0.out.box.cell 5 (by decide)
    have HG0 := Lib.hid (show ZGone W0 none from .inl rfl)
    rw [roundsIn_succ]
    refine wpIn_wide.2 ?_
    go_wp2_with (fail)
    refine (ztake_gone HG0.out (.slice nds len cap) floor high).mono ?_
    rintro e w' ⟨rfl, rfl⟩
    go_wp2_with (fail)
    refine (ztakeof_gone HG0.out node order high).mono ?_
    rintro e w' ⟨rfl, rfl⟩
    go_wp2_with (fail)
    clear cl x1 x2 x3 x4 x5
    refine (zblocksfn_any _ _).mono ?_
    rintro e w' ⟨rfl, rfl⟩
    go_wp2_with (fail)
    refine (zblocksfn_any _ _).mono ?_
    rintro e w' ⟨rfl, rfl⟩
    go_wp2_with (fail)
    have ha : Below W0.heap.size W0 ((W0.alloc (.cells #[.pointer none] 28)).alloc (.cells #[.pointer none] 28)) := ((Below.refl _ _).alloc (Nat.le_refl _) _).alloc (by simp) _
    have hcb : ((W0.alloc (.cells #[.pointer none] 28)).alloc (.cells #[.pointer none] 28)).cell? ⟨W0.heap.size + 1, 0, none⟩ = some (.pointer none) := by simp [go_sem]
    have HA0 := Lib.hid ha
    refine (wpIn_wide (n := m)).1 ?_
    refine zrange_gone m hm (W0.heap.size + 1) none (by simp [go_sem]) hcb (HG0.out.later ha) ?_
    intro D0 V0 hD hb hK
    have hb2 : Below W0.heap.size W0 V0 := HA0.out.trans (hb.mono HA0.out.size)
    have HM0 := Lib.hid (HN0.out.next hb2)
    have HH0 := Lib.hid (HG0.out.later hb2)
    have HK00 := Lib.hid hK
    have HD0 := Lib.hid (show W0.heap.size ≤ D0 from Nat.le_trans HA0.out.size hD)
    clear ha hcb hD hb hK hb2 HA0
    have x1 : V0.cell? ⟨w.heap.size, 1, none⟩ = some (.int .i64 node) := HM0.out.box.cell 1 (by decide)
    have x2 : V0.cell? ⟨w.heap.size, 2, none⟩ = some (.int .i64 order) := HM0.out.box.cell 2 (by decide)
    go_wp2_with (fail)
    refine (zgive_gone HH0.out node order).mono ?_
    rintro e w' ⟨rfl, rfl⟩
    go_wp2_with (fail)
    refine (zfree_gone HH0.out node).mono ?_
    rintro e w' ⟨rfl, rfl⟩
    go_wp2_with (fail)
    refine (zstate_gone HH0.out node).mono ?_
    rintro e w' ⟨rfl, rfl⟩
    go_wp2_with (fail)
    refine (zcopy_gone HH0.out).mono ?_
    rintro e w' ⟨rfl, rfl⟩
    clear x1 x2
    go_wp2_with (fail)
    generalize V0 = W1 at *
    have HN1 := HM0
    have cl : W1.cell? ⟨w.heap.size + 3, 1, none⟩ = some (.pointer (some ⟨w.heap.size + 2, 0, none⟩)) := HN1.out.lst.cell 1 (by decide)
    have x1 : W1.cell? ⟨w.heap.size, 1, none⟩ = some (.int .i64 node) := HN1.out.box.cell 1 (by decide)
    have x2 : W1.cell? ⟨w.heap.size, 2, none⟩ = some (.int .i64 order) := HN1.out.box.cell 2 (by decide)
    have x3 : W1.cell? ⟨w.heap.size, 3, none⟩ = some (.int .i64 floor) := HN1.out.box.cell 3 (by decide)
    have x4 : W1.cell? ⟨w.heap.size, 4, none⟩ = some (.slice nds len cap) := HN1.out.box.cell 4 (by decide)
    have x5 : W1.cell? ⟨w.heap.size, 5, none⟩ = some (.bool high) := HN1.out.box.cell 5 (by decide)
    have HG1 := Lib.hid (show ZGone W1 (some ⟨w.heap.size + 2, 0, none⟩) from HN1.out.gone)
    rw [roundsIn_succ]
    refine wpIn_wide.2 ?_
    go_wp2_with (fail)
    refine (ztake_gone HG1.out (.slice nds len cap) floor high).mono ?_
    rintro e w' ⟨rfl, rfl⟩
    go_wp2_with (fail)
    refine (ztakeof_gone HG1.out node order high).mono ?_
    rintro e w' ⟨rfl, rfl⟩
    go_wp2_with (fail)
    clear cl x1 x2 x3 x4 x5
    refine (zblocksfn_any _ _).mono ?_
    rintro e w' ⟨rfl, rfl⟩
    go_wp2_with (fail)
    refine (zblocksfn_any _ _).mono ?_
    rintro e w' ⟨rfl, rfl⟩
    go_wp2_with (fail)
    have ha : Below W1.heap.size W1 ((W1.alloc (.cells #[.pointer (some ⟨w.heap.size + 2, 0, none⟩)] 28)).alloc (.cells #[.pointer (some ⟨w.heap.size + 2, 0, none⟩)] 28)) := ((Below.refl _ _).alloc (Nat.le_refl _) _).alloc (by simp) _
    have hcb : ((W1.alloc (.cells #[.pointer (some ⟨w.heap.size + 2, 0, none⟩)] 28)).alloc (.cells #[.pointer (some ⟨w.heap.size + 2, 0, none⟩)] 28)).cell? ⟨W1.heap.size + 1, 0, none⟩ = some (.pointer (some ⟨w.heap.size + 2, 0, none⟩)) := by simp [go_sem]
    have HA1 := Lib.hid ha
    refine (wpIn_wide (n := m)).1 ?_
    refine zrange_gone m hm (W1.heap.size + 1) (some ⟨w.heap.size + 2, 0, none⟩) (by simp [go_sem]) hcb (HG1.out.later ha) ?_
    intro D1 V1 hD hb hK
    have hb2 : Below W1.heap.size W1 V1 := HA1.out.trans (hb.mono HA1.out.size)
    have HM1 := Lib.hid (HN1.out.next hb2)
    have HH1 := Lib.hid (HG1.out.later hb2)
    have HK11 := Lib.hid hK
    have HD1 := Lib.hid (show W1.heap.size ≤ D1 from Nat.le_trans HA1.out.size hD)
    have HK01 := Lib.hid (show V1.heap[D0]? = some (.deferred (some [])) from (hb2.block D0 (Array.getElem?_eq_some_iff.1 HK00.out).1).trans HK00.out)
    have hDD : D1 ≠ D0 := fun e => by
      have h1 := (Array.getElem?_eq_some_iff.1 HK00.out).1
      have h2 := HD1.out
      omega
    clear ha hcb hD hb hK hb2 HA1
    have x1 : V1.cell? ⟨w.heap.size, 1, none⟩ = some (.int .i64 node) := HM1.out.box.cell 1 (by decide)
    have x2 : V1.cell? ⟨w.heap.size, 2, none⟩ = some (.int .i64 order) := HM1.out.box.cell 2 (by decide)
    go_wp2_with (fail)
    refine (zgive_gone HH1.out node order).mono ?_
    rintro e w' ⟨rfl, rfl⟩
    go_wp2_with (fail)
    refine (zfree_gone HH1.out node).mono ?_
    rintro e w' ⟨rfl, rfl⟩
    go_wp2_with (fail)
    refine (zstate_gone HH1.out node).mono ?_
    rintro e w' ⟨rfl, rfl⟩
    go_wp2_with (fail)
    refine (zcopy_gone HH1.out).mono ?_
    rintro e w' ⟨rfl, rfl⟩
    clear x1 x2
    go_wp2_with (fail)
    rw [roundsIn_succ]
    refine wpIn_wide.2 ?_
    go_wp2_with (fail)
    refine (zknown_any V1).mono ?_
    rintro e V9 ⟨rfl, hb⟩
    have HN9 := Lib.hid (HM1.out.next hb)
    have HQ0 := Lib.hid (show V9.heap[D0]? = some (.deferred (some [])) from (hb.block D0 (Array.getElem?_eq_some_iff.1 HK01.out).1).trans HK01.out)
    have HQ1 := Lib.hid (show V9.heap[D1]? = some (.deferred (some [])) from (hb.block D1 (Array.getElem?_eq_some_iff.1 HK11.out).1).trans HK11.out)
    clear hb
    have c0 : V9.cell? ⟨w.heap.size + 1, 0, none⟩ = some (.bool false) := HN9.out.res.cell 0 (by decide)
    have f0 := HN9.out.res.frozen 0
    go_wp2_with (fail)
    have n0 : D0 ≠ w.heap.size + 1 := by have := HD0.out; have := HN0.out.le; omega
    have n1 : D1 ≠ w.heap.size + 1 := by have := HD1.out; have := HN1.out.le; omega
    have ho := Only.setCell (S := fun k => k = w.heap.size + 1) V9 ⟨w.heap.size + 1, 0, none⟩ rfl (.bool true)
    have hc : (V9.setCell ⟨w.heap.size + 1, 0, none⟩ (.bool true)).cell? ⟨w.heap.size + 1, 0, none⟩ = some (.bool true) := World.cell?_setCell_same' _ _ _ (by rw [c0]; rfl)
    refine leaves_many [D1, D0] _ ?_ (fun D hD => ?_) (fun W' ho2 hs2 => ?_)
    · simp only [List.nodup_cons, List.mem_singleton, List.not_mem_nil, not_false_eq_true, List.nodup_nil, and_true]
      exact hDD
    · rcases List.mem_cons.1 hD with rfl | hD
      · rw [ho.block D (Array.getElem?_eq_some_iff.1 HQ1.out).1 n1]
        exact HQ1.out
      · rw [List.mem_singleton] at hD
        subst hD
        rw [ho.block D (Array.getElem?_eq_some_iff.1 HQ0.out).1 n0]
        exact HQ0.out
    · have hc2 := ho2.cell (b := w.heap.size + 1) (o := 0) (fun h => by
        rcases List.mem_cons.1 h with h | h
        · exact n1 h.symm
        · rw [List.mem_singleton] at h
          exact n0 h.symm) hc
      refine ⟨.bool true, ?_, rfl, ?_⟩
      · simp [results, Try.f4, go_sem, hc2]
      · have hle := HN9.out.le
        have hb9 : Below w.heap.size w (V9.setCell ⟨w.heap.size + 1, 0, none⟩ (.bool true)) := HN9.out.bel.setCell (p := ⟨w.heap.size + 1, 0, none⟩) (Nat.le_succ _) _
        refine ho2.below hb9 (by simp [World.setCell]; omega) (fun k hk => ?_)
        rcases List.mem_cons.1 hk with h | h
        · have := HD1.out; have := HN1.out.le; omega
        · rw [List.mem_singleton] at h
          have := HD0.out; have := HN0.out.le; omega
  · have hl2 : 50 < (len : Int) := by omega
    go_wp2_with (fail)
    generalize (w.alloc (.cells #[.int .i64 kind, .int .i64 node, .int .i64 order, .int .i64 floor, .slice nds len cap, .bool high] 39)).alloc (.cells #[.bool false] 4) = w2 at *
    refine (zknown_any w2).mono ?_
    rintro e w3 ⟨rfl, hb⟩
    have hr := HRES.out.later hb
    have HR := Lib.hid hr
    have c0 : w3.cell? ⟨w.heap.size + 1, 0, none⟩ = some (.bool false) := hr.cell 0 (by decide)
    have f0 : w3.frozen? ⟨w.heap.size + 1, 0, none⟩ = false := hr.frozen 0
    have HB3 := Lib.hid ((HB2.out.trans (hb.mono HB2.out.size)).setCell (p := ⟨w.heap.size + 1, 0, none⟩) (Nat.le_succ _) (.bool true))
    have hc : (w3.setCell ⟨w.heap.size + 1, 0, none⟩ (.bool true)).cell? ⟨w.heap.size + 1, 0, none⟩ = some (.bool true) := World.cell?_setCell_same' _ _ _ (by rw [c0]; rfl)
    have HCC := Lib.hid hc
    clear hr hb hc
    go_wp2_with (fail)
    have hc := HCC.out
    refine ⟨.bool true, ?_, rfl, HB3.out⟩
    simp [results, Try.f4, go_sem, hc]
theorem lawZNone_any (o : OpZ) (w : World) :
    Calls Try.prog 4 #[.agg o.arr] w fun e w' => e = .returned (.bool true) ∧ Below w.heap.size w w' :=
  callsIn_wide.1 (lawZNone_in 3 (Nat.le_refl _) o w)
end
/-! A config that comes in: ninety-four ints. -/
section
open Go.ChangeShapes Go.WideShapes Go.ChangeAt Go.RowKit

theorem at_part {cs : List Value} {o k i : Nat} {v : Value} (h : (((cs.drop o).take k).drop i).take 1 = [v]) : cs[o + i]? = some v := by
  have := at_drop h
  have hi : i < k := by
    by_cases e : i < k
    · exact e
    · rw [List.getElem?_take_eq_none (by omega)] at this; cases this
  rw [List.getElem?_take_of_lt hi, List.getElem?_drop] at this
  exact this

theorem cells23 : Try.prog.cellsOf 23 = 8 := by kernel_rfl
theorem cells22 : Try.prog.cellsOf 22 = 16 := by kernel_rfl
theorem cells24 : Try.prog.cellsOf 24 = 64 := by kernel_rfl
theorem cells26 : Try.prog.cellsOf 26 = 94 := by kernel_rfl

section
variable {H : Type} {enc : TypeId × Value → H} {w : World} {base : Nat} {sp : Nat → Bool} {held : Bool} {fuel : Nat} {x : DataW H × List MemPlace} {cs : List Value}
set_option maxRecDepth 100000 in
theorem ints_of_array {t : TypeId} {n : Nat} (ht : Try.prog.underlying t = some (.array n 3)) (h : DataW.trod enc Try.prog w base sp held fuel t cs = some x) : ∀ i, i < n → ∃ z, (cs.drop i).take 1 = [Value.int .i64 z] := by
  obtain ⟨xs, m, rfl, _, _, hl, hel⟩ := DataW.trod_array ht h
  intro i hi
  have h1 := hel i hi
  rw [cells3, Nat.mul_one] at h1
  cases hy : xs[i]? with
  | none => rw [List.getElem?_eq_none_iff] at hy; omega
  | some y =>
    rw [hy] at h1
    obtain ⟨z, e1, _, _⟩ := DataW.trod_int Try.underlying3 h1
    exact ⟨z, e1⟩
set_option maxRecDepth 100000 in
theorem ints_of_rows (h : DataW.trod enc Try.prog w base sp held fuel 24 cs = some x) : ∀ a i, a < 8 → i < 8 → ∃ z, (((cs.drop (a * 8)).take 8).drop i).take 1 = [Value.int .i64 z] := by
  obtain ⟨xs, m, rfl, _, _, hl, hel⟩ := DataW.trod_array Try.underlying24 h
  intro a i ha hi
  have h1 := hel a ha
  rw [cells23] at h1
  cases hy : xs[a]? with
  | none => rw [List.getElem?_eq_none_iff] at hy; omega
  | some y =>
    rw [hy] at h1
    exact ints_of_array Try.underlying23 h1 i hi
end

set_option maxRecDepth 100000 in
theorem cfg_arg {H : Type} {enc : TypeId × Value → H} {W : World} {base : Nat} {v : Value} {d : DataW H} {p : List MemPlace} (hv : Value.okWide Try.prog W .any base 26 v)
    (h : DataW.Trod enc Try.prog W 0 (fun _ => true) true 26 v d p) : ∃ A g, v = .agg A ∧ Cfg A g := by
  obtain ⟨A, rfl, hsz⟩ := okWide_struct Try.underlying26 hv
  rw [cells26] at hsz
  obtain ⟨fuel, hf⟩ := h
  obtain ⟨xs, n, rfl, _, _, hl, hel⟩ := DataW.trod_struct Try.underlying26 hf
  have key : ∀ i, i < 94 → ∃ z, A[i]? = some (.int .i64 z) := by
    intro i hi
    have toA : ∀ z, A.toList[i]? = some (Value.int .i64 z) → ∃ z, A[i]? = some (.int .i64 z) := fun z hz => ⟨z, by simpa using hz⟩
    have one : ∀ (j o : Nat) (f : Field), (Try.prog.fieldsOf 26)[j]? = some f → f.type = 3 → f.offset = o → i = o → ∃ z, A[i]? = some (.int .i64 z) := fun j o f e1 e2 e3 e4 => by
      have h1 := hel j f e1
      rw [e2, e3, cells3] at h1
      cases hy : xs[j]? with
      | none =>
        have h2 := (Array.getElem?_eq_some_iff.1 e1).1
        rw [List.getElem?_eq_none_iff, hl] at hy
        exact absurd h2 (by show ¬ j < (Try.prog.fieldsOf 26).size; exact Nat.not_lt.2 hy)
      | some y =>
        rw [hy] at h1
        obtain ⟨z, e5, _, _⟩ := DataW.trod_int Try.underlying3 h1
        subst e4
        exact toA z (at_drop e5)
    have some1 : ∀ (j : Nat) (f : Field), (Try.prog.fieldsOf 26)[j]? = some f → ∃ y, DataW.trod enc Try.prog W 0 (fun _ => true) true n f.type ((A.toList.drop f.offset).take (Try.prog.cellsOf f.type)) = some y := fun j f e1 => by
      have h1 := hel j f e1
      cases hy : xs[j]? with
      | none =>
        have h2 := (Array.getElem?_eq_some_iff.1 e1).1
        rw [List.getElem?_eq_none_iff, hl] at hy
        exact absurd h2 (by show ¬ j < (Try.prog.fieldsOf 26).size; exact Nat.not_lt.2 hy)
      | some y => exact ⟨y, h1.trans hy⟩
    by_cases a0 : i = 0
    · exact one 0 0 ⟨ "Nodes", 3, 0, false, "", "", 0⟩ (by kernel_rfl) rfl rfl a0
    by_cases a1 : i = 1
    · exact one 1 1 ⟨ "CPUs", 3, 1, false, "", "", 8⟩ (by kernel_rfl) rfl rfl a1
    by_cases a2 : i < 18
    · obtain ⟨y, hy⟩ := some1 2 ⟨ "Home", 22, 2, false, "", "", 16⟩ (by kernel_rfl)
      rw [cells22] at hy
      obtain ⟨z, hz⟩ := ints_of_array Try.underlying22 hy (i - 2) (by omega)
      have := at_part hz
      rw [show 2 + (i - 2) = i by omega] at this
      exact toA z this
    by_cases a3 : i < 26
    · obtain ⟨y, hy⟩ := some1 3 ⟨ "Frames", 23, 18, false, "", "", 144⟩ (by kernel_rfl)
      rw [cells23] at hy
      obtain ⟨z, hz⟩ := ints_of_array Try.underlying23 hy (i - 18) (by omega)
      have := at_part hz
      rw [show 18 + (i - 18) = i by omega] at this
      exact toA z this
    by_cases a4 : i < 90
    · obtain ⟨y, hy⟩ := some1 4 ⟨ "Distance", 24, 26, false, "", "", 208⟩ (by kernel_rfl)
      rw [cells24] at hy
      obtain ⟨z, hz⟩ := ints_of_rows hy ((i - 26) / 8) ((i - 26) % 8) (by omega) (by omega)
      have h1 := at_part hz
      have hlt : (i - 26) / 8 * 8 + (i - 26) % 8 < 64 := by omega
      rw [List.getElem?_take_of_lt hlt, List.getElem?_drop, show 26 + ((i - 26) / 8 * 8 + (i - 26) % 8) = i by omega] at h1
      exact toA z h1
    by_cases a5 : i = 90
    · exact one 5 90 ⟨ "Slots", 3, 90, false, "", "", 720⟩ (by kernel_rfl) rfl rfl a5
    by_cases a6 : i = 91
    · exact one 6 91 ⟨ "Min", 3, 91, false, "", "", 728⟩ (by kernel_rfl) rfl rfl a6
    by_cases a7 : i = 92
    · exact one 7 92 ⟨ "Low", 3, 92, false, "", "", 736⟩ (by kernel_rfl) rfl rfl a7
    · exact one 8 93 ⟨ "High", 3, 93, false, "", "", 744⟩ (by kernel_rfl) rfl rfl (by omega)
  refine ⟨A, fun i => match A[i]? with | some (.int .i64 z) => z | _ => 0, rfl, hsz, fun i hi => ?_⟩
  obtain ⟨z, hz⟩ := key i hi
  rw [hz]
end
/-! zones' laws, pure: one frame taken, and given back; how many are free. -/
section
theorem newL_free : ∀ n, n < 129 → freeT (newL n) = n := by decide +kernel
section
variable {n : Nat} {L T : List (Int × Int)}
/-- One frame: it is had just if one is free; given back, all is as it was. -/
theorem take_one (I : Inv n L T) (high : Bool) :
    (0 < freeT L ∧ ∃ (y : Nat) (M : List (Int × Int)), takeS L T 0 high = ((y : Int), 0, M, T ++ [((y : Int), 0)]) ∧ freeT M + 1 = freeT L ∧ giveS M (T ++ [((y : Int), 0)]) (y : Int) 0 = (0, L, T) ∧ Inv n M (T ++ [((y : Int), 0)]) ∧ y < n ∧ tkL T (y : Int) = none)
    ∨ (freeT L = 0 ∧ takeS L T 0 high = (0, 6, L, T)) := by
  rcases pick_or I 0 high with ⟨a, q, hp⟩ | hp
  · obtain ⟨y, h1, h2, J, hyn, hnone, hoq, hq, _, _⟩ := inv_take I (od := 0) (by decide) hp
    have hf : freeT (splitL high 0 (q - 0) (dropL L ((a : Int), (q : Int))) (a : Int)).1 + 1 = freeT L := by
      have h3 := freeT_split high 0 (q - 0) (dropL L ((a : Int), (q : Int))) (a : Int)
      have h4 := freeT_drop (rising_nodup I.ris) hp.1
      rw [show 0 + (q - 0) = q by omega] at h3
      simp only [Int.toNat_natCast] at h4
      rw [h4, Nat.pow_zero] at h3
      exact h3
    refine .inl ⟨by omega, y, _, h2, hf, ?_, J, hyn, hnone⟩
    have hm : ((y : Int), ((0 : Nat) : Int)) ∈ T ++ [((y : Int), ((0 : Nat) : Int))] := by simp
    obtain ⟨K, _, _, e⟩ := J.give hm
    have e : giveS _ (T ++ [((y : Int), (0 : Int))]) (y : Int) 0 = _ := e
    rw [e, dropL_back hnone]
    rw [dropL_back hnone] at K
    rw [K.unique I (fun o a => Iff.rfl)]
  · refine .inr ⟨?_, ?_⟩
    · have h0 : L = [] := List.eq_nil_iff_forall_not_mem.2 fun p hm => by
        obtain ⟨x, o, rfl⟩ := I.nat p hm
        exact hp _ hm (by show (0 : Int) ≤ (o : Int); omega)
      subst h0
      rfl
    · unfold takeS
      rw [if_pos ⟨by decide, by decide⟩, pick_none (od := (0 : Int)) hp, if_pos (by decide)]
end
/-- A node from which frames are taken one by one: what is free and taken, and what each one is. -/
def sq (n : Nat) (high : Bool) : Nat → List (Int × Int) × List (Int × Int)
  | 0 => (newL n, [])
  | k + 1 => (takeS (sq n high k).1 (sq n high k).2 0 high).2.2
def yq (n : Nat) (high : Bool) (k : Nat) : Int := (takeS (sq n high k).1 (sq n high k).2 0 high).1
theorem sq_inv {n : Nat} (h1 : 1 ≤ n) (h2 : n ≤ 128) (high : Bool) : ∀ k, k ≤ n → Inv n (sq n high k).1 (sq n high k).2 ∧ freeT (sq n high k).1 = n - k
  | 0, _ => ⟨inv_new h1 h2, newL_free n (by omega)⟩
  | k + 1, hk => by
    obtain ⟨I, hf⟩ := sq_inv h1 h2 high k (by omega)
    rcases take_one I high with ⟨_, y, M, e, hM, _, J, _, _⟩ | ⟨h0, _⟩
    · have e2 : sq n high (k + 1) = (M, (sq n high k).2 ++ [((y : Int), 0)]) := by
        show (takeS _ _ 0 high).2.2 = _
        rw [e]
      rw [e2]
      exact ⟨J, by show freeT M = _; omega⟩
    · omega
theorem sq_take {n : Nat} (h1 : 1 ≤ n) (h2 : n ≤ 128) (high : Bool) (k : Nat) (hk : k < n) :
    takeS (sq n high k).1 (sq n high k).2 0 high = (yq n high k, 0, (sq n high (k + 1)).1, (sq n high (k + 1)).2) ∧ giveS (sq n high (k + 1)).1 (sq n high (k + 1)).2 (yq n high k) 0 = (0, (sq n high k).1, (sq n high k).2) ∧ 0 ≤ yq n high k ∧ yq n high k < (n : Int) := by
  obtain ⟨I, hf⟩ := sq_inv h1 h2 high k (by omega)
  rcases take_one I high with ⟨_, y, M, e, hM, hg, J, hy, _⟩ | ⟨h0, _⟩
  · have e1 : yq n high k = (y : Int) := by
      show (takeS _ _ 0 high).1 = _
      rw [e]
    have e2 : sq n high (k + 1) = (M, (sq n high k).2 ++ [((y : Int), 0)]) := by
      show (takeS _ _ 0 high).2.2 = _
      rw [e]
    rw [e1, e2]
    exact ⟨e, hg, by omega, by omega⟩
  · omega
/-- How a node is off that has f frames free. -/
def zst (g : Nat → Int) (f : Nat) : Int := if (f : Int) ≤ g 91 then 0 else if (f : Int) ≤ g 92 then 1 else if (f : Int) ≤ g 93 then 2 else 3
theorem zst_mono {g : Nat → Int} {e f : Nat} (h : e ≤ f) : zst g e ≤ zst g f := by
  unfold zst
  repeat' split
  all_goals omega
theorem zState_zst {g : Nat → Int} {N : Nat} {L : Nat → List (Int × Int)} {k : Nat} (hk : k < N) : zState g N L k = zst g (freeT (L k)) := by
  have hf : zFree N L (k : Int) = freeT (L k) := by
    unfold zFree
    rw [if_pos ⟨by omega, by omega⟩, Int.toNat_natCast]
  unfold zState zst
  rw [if_pos ⟨by omega, by omega⟩, hf]
theorem zFree_at {N : Nat} {L : Nat → List (Int × Int)} {k : Nat} (hk : k < N) : zFree N L (k : Int) = freeT (L k) := by
  unfold zFree
  rw [if_pos ⟨by omega, by omega⟩, Int.toNat_natCast]
theorem updN_upd {α : Type} (f : Nat → α) (k : Nat) (x y : α) : updN (updN f k x) k y = updN f k y := by
  funext i
  unfold updN
  split <;> rfl
/-- The frame's node. -/
theorem nodeF_at {g : Nat → Int} {N k : Nat} (hp : ∀ i, i < N → 0 ≤ g (18 + i)) (hk : k < N) {y : Int} (h0 : 0 ≤ y) (h1 : y < (frN g k : Int)) :
    0 ≤ sumF g k + y ∧ sumF g k + y < ((nodL g N).length : Int) ∧ nodeF g N (sumF g k + y).toNat = k := by
  have hk1 := frL_length g k (fun i hi => hp i (by omega))
  have hk2 := frL_length g (k + 1) (fun i hi => hp i (by omega))
  have hs : sumF g (k + 1) = sumF g k + g (18 + k) := rfl
  have hg := hp k hk
  have hfr : (frN g k : Int) = g (18 + k) := by unfold frN; omega
  obtain ⟨R, e, _⟩ := nodL_split g (k + 1) (N - (k + 1))
  rw [show k + 1 + (N - (k + 1)) = N by omega] at e
  have hle : (nodL g (k + 1)).length ≤ (nodL g N).length := by rw [e, List.length_append]; omega
  have hfl : (sumF g k + y).toNat < (nodL g N).length := by omega
  have q1 := nodL_at g (show k ≤ N by omega) hfl
  have q2 := nodL_at g (show k + 1 ≤ N by omega) hfl
  obtain ⟨e1, _⟩ := nodeF_is g hfl
  have a1 : ¬ (nodL g N).getD (sumF g k + y).toNat 0 < (k : Int) := fun h => by have := q1.1 h; omega
  have a2 : (nodL g N).getD (sumF g k + y).toNat 0 < ((k + 1 : Nat) : Int) := q2.2 (by omega)
  exact ⟨by omega, by omega, by omega⟩
theorem zTakeOf_at {g : Nat → Int} {N : Nat} {L T : Nat → List (Int × Int)} {k : Nat} (hk : k < N) {order y : Int} {high : Bool} {M U : List (Int × Int)} (h : takeS (L k) (T k) order high = (y, 0, M, U)) :
    zTakeOf g N L T (k : Int) order high = (sumF g k + y, 0, updN L k M, updN T k U) := by
  unfold zTakeOf
  rw [if_pos ⟨by omega, by omega⟩, Int.toNat_natCast, h]
  rfl
theorem zTakeOf_bad {g : Nat → Int} {N : Nat} {L T : Nat → List (Int × Int)} {k : Nat} (hk : k < N) {order e : Int} {high : Bool} (he : e ≠ 0) (h : takeS (L k) (T k) order high = (0, e, L k, T k)) :
    zTakeOf g N L T (k : Int) order high = (0, e, L, T) := by
  unfold zTakeOf
  rw [if_pos ⟨by omega, by omega⟩, Int.toNat_natCast, h]
  dsimp only
  rw [if_neg he, updN_self, updN_self]
theorem zGive_at {g : Nat → Int} {N : Nat} (hp : ∀ i, i < N → 0 ≤ g (18 + i)) {L T : Nat → List (Int × Int)} {k : Nat} (hk : k < N) {y order e : Int} {M U : List (Int × Int)} (h0 : 0 ≤ y) (h1 : y < (frN g k : Int)) (h : giveS (L k) (T k) y order = (e, M, U)) :
    zGive g N L T (sumF g k + y) order = (e, updN L k M, updN T k U) := by
  obtain ⟨a1, a2, a3⟩ := nodeF_at hp hk h0 h1
  unfold zGive
  rw [if_pos ⟨a1, a2⟩, a3, show sumF g k + y - sumF g k = y by omega, h]
end
/-! zones: Copy. -/
section
open Go.RowKit Go

def ZCopy (w : World) (g : Nat → Int) (L T : Nat → List (Int × Int)) (e : Ending) (w' : World) : Prop := ∃ Z : ZC, e = .returned (.pointer (some ⟨Z.z, 0, none⟩)) ∧ ZnAt w' Z g L T ∧ Below w.heap.size w w' ∧ ∀ k, Z.all k → w.heap.size ≤ k
set_option maxRecDepth 100000 in
set_option maxHeartbeats 4000000 in
theorem zcopy6_any {w : World} {Z : ZC} {g : Nat → Int} {L T : Nat → List (Int × Int)} (A : ZnAt w Z g L T) :
    Calls Try.prog 19 #[.pointer (some ⟨Z.z, 0, none⟩)] w (ZCopy w g L T) := by
  obtain ⟨i0, hi, hz0, hz1', hz2'⟩ := info_parts ptrInfo6
  have h8 := A.n8
  have c94 := A.c94
  have HA := Lib.hid A
  have LC := Lib.hid A.load_cfg
  clear A
  have ha : Below w.heap.size w (w.alloc (.cells (zmA g (.slice none 0 0)) 48)) := (Below.refl _ w).alloc (Nat.le_refl _) _
  have HMK := Lib.hid (show ZMk w w.heap.size 0 g L T (fun _ => 0) (fun _ _ => 0) (fun _ => 0) (.slice none 0 0) (w.alloc (.cells (zmA g (.slice none 0 0)) 48)) from
    ⟨RowAt.new w _ _ 95 _ (zmA_at g _), World.ownsRow_nil _ _ _ _, fun i h => absurd h (Nat.not_lt_zero _), fun i h => absurd h (Nat.not_lt_zero _), fun i j h => absurd h (Nat.not_lt_zero _), ha, by omega, by simp⟩)
  have cz : (w.alloc (.cells (zmA g (.slice none 0 0)) 48)).cell? ⟨Z.z, 94, none⟩ = some (.slice (some ⟨Z.zb, 0, none⟩) Z.N Z.zc) := (HA.out.later ha).c94
  clear ha
  go_enter Try.func19, Try.ntmps19
  go_wp2_with (fail)
  refine (zmissing_any HA.out).mono ?_
  rintro e w' ⟨rfl, rfl⟩
  go_wp2_with (first | (refine wpList_load_run rfl 26 _ rfl rfl LC.out ?_) | (refine wpList_buildZ rfl rfl (.agg (zmA g (.slice none 0 0))) (by kernel_rfl) ?_) | fail)
  clear cz c94
  generalize w.alloc (.cells (zmA g (.slice none 0 0)) 48) = w3 at *
  go_loopw [19] (fun i wr => ∃ (k : Nat) (ds : Nat → Nat) (mbs : Nat → Nat → Nat) (tbs : Nat → Nat) (v : Value), i = .int .i64 k ∧ k ≤ Z.N ∧ Hid (∀ i, i < k → ds i < wr.heap.size ∧ ∀ q, own6 (mbs i) (tbs i) q → q < wr.heap.size) ∧ ZMk w w.heap.size k g L T ds mbs tbs v wr) (fun i _ => Z.N - (intOf i).toNat)
  case atStart => exact ⟨0, _, _, _, _, rfl, Nat.zero_le _, fun i h => absurd h (Nat.not_lt_zero _), HMK.out⟩
  case round =>
    clear HMK
    obtain ⟨k, ds, mbs, tbs, v, rfl, hk, HLO, hM⟩ := hrel
    have HMK := Lib.hid hM
    clear hM
    by_cases hlt : k < Z.N
    · have hltI : (k : Int) < (Z.N : Int) := by omega
      obtain ⟨va, vc, hve, _⟩ := owns_slice HMK.out.own
      subst hve
      have ck := (HA.out.later HMK.out.bel).cb hlt
      have L0 := Lib.hid (show ∀ W, RowAt W w.heap.size 95 (zmkV g (.slice va k vc)) → (loadVar 46 ⟨w.heap.size, 94, none⟩).run Try.prog W = .ok (.slice va k vc) W from
        fun W hW => run_loadVar_cell (fun _ => by kernel_rfl) (hW.cell 94 (by decide)))
      go_wp2_with (fail)
      clear ck
      refine wp_region_lexF (fun W => RowAt W w.heap.size 95 (zmkV g (.slice va k vc)))
        [(0, false), (1, false), (2, false), (3, false), (4, false), (5, false), (6, true), (7, true), (8, true), (9, false), (10, false)] 11
        (by kernel_rfl) (by kernel_rfl) rfl (by kernel_rfl) (HMK.out.row.later (Below.refl _ wr).drew) ?_
      intro W0 hW0 hK0
      have HK0 := Lib.hid hK0
      have HD0 := Lib.hid (show Below wr.heap.size wr W0 by rw [hW0]; exact (Below.refl _ wr).drew)
      clear hW0 hK0
      refine lexH_yieldE rfl rfl ?_
      apply Exists.intro
      refine ⟨fun W hW => ?_, ?_⟩
      focus (go_simp; exact rfl)
      simp only [List.getElem_toArray, List.getElem_cons_zero, Act.put, List.setIfInBounds_toArray, List.set_cons_zero, List.set_cons_succ]
      refine lexH_yieldE rfl rfl ?_
      apply Exists.intro
      refine ⟨fun W hW => ?_, ?_⟩
      focus (go_simp; exact rfl)
      simp only [List.getElem_toArray, List.getElem_cons_succ, List.getElem_cons_zero, Act.put, List.setIfInBounds_toArray, List.set_cons_zero, List.set_cons_succ]
      refine lexH_yieldE rfl rfl ?_
      apply Exists.intro
      refine ⟨fun W hW => ?_, ?_⟩
      focus (go_simp; exact rfl)
      simp only [List.getElem_toArray, List.getElem_cons_succ, List.getElem_cons_zero, Act.put, List.setIfInBounds_toArray, List.set_cons_zero, List.set_cons_succ]
      refine lexH_yieldE rfl rfl ?_
      apply Exists.intro
      refine ⟨fun W hW => ?_, ?_⟩
      focus (go_simp; exact rfl)
      simp only [List.getElem_toArray, List.getElem_cons_succ, List.getElem_cons_zero, Act.put, List.setIfInBounds_toArray, List.set_cons_zero, List.set_cons_succ]
      refine lexH_load rfl rfl _ _ rfl rfl L0.out ?_
      simp only [List.getElem_toArray, List.getElem_cons_succ, List.getElem_cons_zero, Act.put, List.setIfInBounds_toArray, List.set_cons_zero, List.set_cons_succ]
      refine lexH_yieldE rfl rfl ?_
      apply Exists.intro
      refine ⟨fun W hW => ?_, ?_⟩
      focus (go_simp; exact rfl)
      simp only [List.getElem_toArray, List.getElem_cons_succ, List.getElem_cons_zero, Act.put, List.setIfInBounds_toArray, List.set_cons_zero, List.set_cons_succ]
      refine lexH_call 41 #[.pointer (some ⟨Z.ds k, 0, none⟩)] rfl rfl ?_ ?_
      focus (go_simp; done)
      refine (copy6_any (((HA.out.nd k hlt).later HMK.out.bel).later HD0.out) (HA.out.inv k hlt).n1).mono ?_
      rintro e W1 ⟨d, mb, tb, rfl, hN, hd, hq, hb⟩
      have hb01 := HD0.out.trans (hb.mono HD0.out.size)
      have HM1 := Lib.hid (HMK.out.later hb01)
      have HN1 := Lib.hid hN
      have HB1 := Lib.hid hb01
      have HD1 := Lib.hid (Nat.le_trans HD0.out.size hd)
      have HQ1 := Lib.hid (fun q h => Nat.le_trans HD0.out.size (hq q h))
      refine ⟨_, rfl, HM1.out.row, ?_⟩
      clear hN hd hq hb hb01 HK0 L0
      simp only [List.getElem_toArray, List.getElem_cons_succ, List.getElem_cons_zero, Act.put, List.setIfInBounds_toArray, List.set_cons_zero, List.set_cons_succ]
      refine lexH_eff rfl rfl ?_
      unfold Oper.wp
      go_simp
      have ha : Below W1.heap.size W1 (W1.alloc (.cells #[.pointer (some ⟨d, 0, none⟩)] 63)) := (Below.refl _ W1).alloc (Nat.le_refl _) _
      have HM2 := Lib.hid (HM1.out.later ha)
      have HN2 := Lib.hid (HN1.out.later ha)
      have HA2 := Lib.hid ha
      refine ⟨HM2.out.row, ?_⟩
      clear ha
      refine lexH_append_src _ rfl rfl _ _ 46 rfl (w.heap.size + 1) 63 i0 _ 1 8 Try.underlying46 hi hz0 hz1' hz2' rfl (by decide) _ _ _ HM2.out.own (by have := HM2.out.lt; omega) (some ⟨W1.heap.size, 0, none⟩) 1 1 [.pointer (some ⟨d, 0, none⟩)] rfl rfl rfl ?q5 (fun u hu => by
        rw [List.mem_singleton] at hu
        subst hu
        rfl) ?q6 (by decide) ?_
      case q5 =>
        refine fun _ => ⟨_, rfl, fun q u hq => ?_⟩
        rw [Addr.add_lit, Nat.zero_add, cell_of_row _ _ _ _ _ _ (heap_alloc_new W1 _)]
        simpa using hq
      case q6 => omega
      intro v3 w5 hown3 ho3 _
      have hrow5 := HM2.out.row.only ho3 (fun h => by have := (HM2.out.own.lt _ h).1; omega)
      refine ⟨hrow5, ?_⟩
      obtain ⟨va3, vc3, hve3, _⟩ := owns_slice hown3
      subst hve3
      have hzw := HMK.out.lt
      have hO : ∀ j, (Value.slice va k vc).ownBlock = some j → j < wr.heap.size := fun j h => (HMK.out.own.lt j h).2
      have HMM := Lib.hid (HM2.out.more HN2.out wr.heap.size HD1.out HQ1.out HLO.out hzw hO (by rw [ptrL_one]; exact hown3) ho3)
      have hsz1 : wr.heap.size ≤ W1.heap.size := HB1.out.size
      have hsz2 := HA2.out.size
      have hsz5 := ho3.size
      have hs5 : ∀ q, q < w5.heap.size → q < (w5.setCell ⟨w.heap.size, 94, none⟩ (.slice va3 (k + 1) vc3)).heap.size := fun q h => by simpa using h
      have HLO2 := Lib.hid (show ∀ i, i < k + 1 → (updN ds k d) i < (w5.setCell ⟨w.heap.size, 94, none⟩ (.slice va3 (k + 1) vc3)).heap.size ∧ ∀ q, own6 ((updN mbs k mb) i) ((updN tbs k tb) i) q → q < (w5.setCell ⟨w.heap.size, 94, none⟩ (.slice va3 (k + 1) vc3)).heap.size from fun i hi => by
        by_cases e : i = k
        · subst e
          rw [updN_same, updN_same, updN_same]
          exact ⟨hs5 _ (by have := HN1.out.lt; omega), fun q h => hs5 _ (by have := HN1.out.own_lt h; omega)⟩
        · rw [updN_other ds e, updN_other mbs e, updN_other tbs e]
          obtain ⟨b1, b2⟩ := HLO.out i (by omega)
          exact ⟨hs5 _ (by omega), fun q h => hs5 _ (by have := b2 q h; omega)⟩)
      have HRW := Lib.hid hrow5
      clear hown3 ho3 hrow5 hO hs5 hsz1 hsz2 hsz5 HM1 HN1 HB1 HD1 HQ1 HA2 HM2 HN2
      simp only [List.getElem_toArray, List.getElem_cons_succ, List.getElem_cons_zero, Act.put, List.setIfInBounds_toArray, List.set_cons_zero, List.set_cons_succ]
      refine lexH_yieldE rfl rfl ?_
      apply Exists.intro
      refine ⟨fun W hW => ?_, ?_⟩
      focus (go_simp; exact rfl)
      simp only [List.getElem_toArray, List.getElem_cons_succ, List.getElem_cons_zero, Act.put, List.setIfInBounds_toArray, List.set_cons_zero, List.set_cons_succ]
      refine lexH_yieldE rfl rfl ?_
      apply Exists.intro
      refine ⟨fun W hW => ?_, ?_⟩
      focus (go_simp; exact rfl)
      simp only [List.getElem_toArray, List.getElem_cons_succ, List.getElem_cons_zero, Act.put, List.setIfInBounds_toArray, List.set_cons_zero, List.set_cons_succ]
      refine lexH_last rfl rfl ?_
      have c94 : w5.cell? ⟨w.heap.size, 94, none⟩ = some (.slice va k vc) := HRW.out.cell 94 (by decide)
      have f94 : w5.frozen? ⟨w.heap.size, 94, none⟩ = false := HRW.out.frozen 94
      unfold Oper.wp
      go_simp
      clear c94 f94
      go_wp2_with (fail)
      go_roundw
      case rel => exact ⟨k + 1, _, _, _, _, by go_num, hlt, HLO2, HMM.out⟩
      case measure => simp [intOf]; omega
    · obtain rfl : k = Z.N := by omega
      go_wp2_with (fail)
      go_ret
      obtain ⟨Z2, hz, hA, hall⟩ := HMK.out.done h8.1 HA.out.good HA.out.num HA.out.inv
      exact ⟨Z2, by rw [hz]; rfl, hA, HMK.out.bel, hall⟩
end
/-! zones' laws: zones, and lists, as they lie in a law's world. -/
section
open Go.RowKit Go

structure ZsAt (w : World) (Z : ZC) (g : Nat → Int) (L T : Nat → List (Int × Int)) (B : Nat) (W : World) : Prop where
  zn : ZnAt W Z g L T
  cfg : CfgAt W w.heap.size (ofG g) g
  bel : Below w.heap.size w W
  low : ∀ k, Z.all k → w.heap.size < k ∧ k < B
  bw : B ≤ W.heap.size
section
variable {w W W' : World} {Z : ZC} {g : Nat → Int} {L T L' T' : Nat → List (Int × Int)} {B : Nat}
theorem ZsAt.lt (H : ZsAt w Z g L T B W) : w.heap.size < B := by
  obtain ⟨h1, h2⟩ := H.low Z.z (.inl rfl)
  omega
theorem ZsAt.only {S : Nat → Prop} (H : ZsAt w Z g L T B W) (ho : Only S W W') (hS : ∀ k, S k → B ≤ k) : ZsAt w Z g L T B W' := by
  have hl := H.lt
  have hb := H.bw
  refine ⟨H.zn.only ho (fun k hk h => by have := (H.low k hk).2; have := hS k h; omega), ⟨H.cfg.cfg, ?_⟩, ho.below H.bel (by omega) (fun k h => by have := hS k h; omega), H.low, Nat.le_trans hb ho.size⟩
  rw [ho.block _ (by omega) (fun h => by have := hS _ h; omega)]
  exact H.cfg.block
theorem ZsAt.later (H : ZsAt w Z g L T B W) (h : Below W.heap.size W W') : ZsAt w Z g L T B W' := H.only (S := fun _ => False) (Only.of_below h) (fun _ h => h.elim)
theorem ZsAt.turn (H : ZsAt w Z g L T B W) (A : ZnAt W' Z g L' T') (ho : Only Z.maps W W') : ZsAt w Z g L' T' B W' := by
  have hl := H.lt
  have hb := H.bw
  refine ⟨A, ⟨H.cfg.cfg, ?_⟩, ho.below H.bel (by omega) (fun k h => by have := H.low k (ZC.maps_all h); omega), H.low, Nat.le_trans hb ho.size⟩
  rw [ho.block _ (by omega) (fun h => by have := H.low _ (ZC.maps_all h); omega)]
  exact H.cfg.block
/-- What was made since is none of the zones'. -/
theorem ZsAt.no_maps (H : ZsAt w Z g L T B W) {k : Nat} (hk : B ≤ k) : ¬ Z.maps k := fun h => by
  have := (H.low k (ZC.maps_all h)).2
  omega
theorem ZsAt.owns_turn (H : ZsAt w Z g L T B W) {e : TypeId} {size n : Nat} {v : Value} {xs : List Value} (h : W.ownsRow B e size v n xs) (ho : Only Z.maps W W') : W'.ownsRow B e size v n xs :=
  owns_only h ho (fun _ hk => H.no_maps (h.lt _ hk).1)
theorem ZsAt.c0 (H : ZsAt w Z g L T B W) : W.cell? ⟨w.heap.size, 0, none⟩ = some (.int .i64 Z.N) := by rw [H.cfg.cell 0 (by decide), H.zn.num]
theorem ZsAt.cf (H : ZsAt w Z g L T B W) {k : Nat} (hk : k < Z.N) : W.cell? ⟨w.heap.size, 18 + k, none⟩ = some (.int .i64 (frN g k)) := by
  have h := H.zn.pos k hk
  have h8 := H.zn.n8
  rw [H.cfg.cell (18 + k) (by omega), show g (18 + k) = (frN g k : Int) by unfold frN; omega]
theorem ZsAt.fr (H : ZsAt w Z g L T B W) {k : Nat} (hk : k < Z.N) : 4 ≤ frN g k ∧ frN g k ≤ 128 := by
  have h := H.zn.good.frames k (by have := H.zn.num; omega)
  unfold frN
  omega
end
/-- Two lists of two types don't touch. -/
theorem owns_apart {w : World} {b1 b2 s1 s2 n1 n2 : Nat} {e1 e2 : TypeId} {v1 v2 : Value} {xs ys : List Value} (h1 : w.ownsRow b1 e1 s1 v1 n1 xs) (h2 : w.ownsRow b2 e2 s2 v2 n2 ys) (he : e1 ≠ e2) {k : Nat} (hk : v1.ownBlock = some k) : v2.ownBlock ≠ some k := by
  intro hk2
  rcases h1.2 with ⟨rfl, _⟩ | ⟨g1, cap1, cur1, rfl, _, hh1, _⟩
  · cases hk
  · rcases h2.2 with ⟨rfl, _⟩ | ⟨g2, cap2, cur2, rfl, _, hh2, _⟩
    · cases hk2
    · simp only [Value.ownBlock] at hk hk2
      obtain rfl : g1 = k := by simpa using hk
      obtain rfl : g2 = g1 := by simpa using hk2
      rw [hh1] at hh2
      injection hh2 with hh2
      injection hh2 with _ h3 _
      exact he h3
theorem owns_at {w : World} {B n c j : Nat} {e : TypeId} {a : Option Addr} {xs : List Value} (h : w.ownsRow B e 1 (.slice a n c) n xs) (hj : j < n) : ∃ b, a = some ⟨b, 0, none⟩ ∧ B ≤ b ∧ b < w.heap.size ∧ w.cell? ⟨b, j, none⟩ = xs[j]? := by
  obtain ⟨b, cap, hv, hb, hlt⟩ := h.form (by omega)
  injection hv with e1 _ e3
  subst e1
  subst e3
  exact ⟨b, rfl, hb, hlt, h.cellAt j (by omega)⟩
/-- A law's zones at first. -/
theorem ZsAt.new {w w2 W : World} {Z : ZC} {g : Nat → Int} {L T : Nat → List (Int × Int)} (A : ZnAt W Z g L T) (hb0 : Below w.heap.size w w2) (C : CfgAt w2 w.heap.size (ofG g) g) (hb : Below w2.heap.size w2 W) (hs : w2.heap.size = w.heap.size + 1) (hall : ∀ k, Z.all k → w2.heap.size ≤ k) : ZsAt w Z g L T W.heap.size W :=
  ⟨A, C.later hb, hb0.trans (hb.mono (by omega)), fun k hk => by have := hall k hk; have := A.lt hk; omega, Nat.le_refl _⟩
end
/-! The walk of ZonesStates: it returns true, and below the old heap nothing has turned. -/
section
open Go.RowKit Go

theorem one_cell_int (x : Int) : ∀ u ∈ (#[Value.int .i64 x] : Array Value).toList, u.oneCell' = true := fun u hu => by
  rw [List.mem_singleton] at hu
  subst hu
  rfl
theorem intInfo7 : (Try.prog.info? 3).map (fun i => (i.zero, i.size, i.bytes)) = some (some (.int .i64 0), 1, 8) := by kernel_rfl
theorem stInfo7 : (Try.prog.info? 54).map (fun i => (i.zero, i.size, i.bytes)) = some (some (.int .i64 0), 1, 8) := by kernel_rfl
/-- The lists of the law. -/
def stL (g : Nat → Int) (n : Nat) (j : Nat) : List Value := (List.range j).map fun i => .int .i64 (zst g (n - i))
def frmL (g : Nat → Int) (k n : Nat) (j : Nat) : List Value := (List.range j).map fun i => .int .i64 (sumF g k + yq n false i)
theorem stL_one (g : Nat → Int) (n j : Nat) : stL g n (j + 1) = stL g n j ++ (#[Value.int .i64 (zst g (n - j))] : Array Value).toList := by
  unfold stL
  rw [List.range_succ, List.map_append]
  rfl
theorem frmL_one (g : Nat → Int) (k n j : Nat) : frmL g k n (j + 1) = frmL g k n j ++ (#[Value.int .i64 (sumF g k + yq n false j)] : Array Value).toList := by
  unfold frmL
  rw [List.range_succ, List.map_append]
  rfl
theorem stL_at (g : Nat → Int) (n : Nat) {j m : Nat} (h : j < m) : (stL g n m)[j]? = some (.int .i64 (zst g (n - j))) := by
  unfold stL
  rw [List.getElem?_map, List.getElem?_range h]
  rfl
theorem frmL_at (g : Nat → Int) (k n : Nat) {j m : Nat} (h : j < m) : (frmL g k n m)[j]? = some (.int .i64 (sumF g k + yq n false j)) := by
  unfold frmL
  rw [List.getElem?_map, List.getElem?_range h]
  rfl
/-- The nodes when j frames of the node k are taken. -/
def nL (g : Nat → Int) (k j : Nat) : Nat → List (Int × Int) := updN (fun i => newL (frN g i)) k (sq (frN g k) false j).1
def nT (g : Nat → Int) (k j : Nat) : Nat → List (Int × Int) := updN (fun _ => []) k (sq (frN g k) false j).2
section
variable {g : Nat → Int} {k N : Nat}
theorem nL_zero : nL g k 0 = fun i => newL (frN g i) := by
  unfold nL sq
  exact updN_self _ k
theorem nT_zero : nT g k 0 = fun _ => [] := by
  unfold nT sq
  exact updN_self (fun _ => ([] : List (Int × Int))) k
theorem n_take (hk : k < N) (h4 : 4 ≤ frN g k ∧ frN g k ≤ 128) {j : Nat} (hj : j < frN g k) : zTakeOf g N (nL g k j) (nT g k j) (k : Int) 0 false = (sumF g k + yq (frN g k) false j, 0, nL g k (j + 1), nT g k (j + 1)) := by
  have h := (sq_take (n := frN g k) (by omega) (by omega) false j hj).1
  rw [zTakeOf_at hk (y := yq (frN g k) false j) (M := (sq (frN g k) false (j + 1)).1) (U := (sq (frN g k) false (j + 1)).2) (by unfold nL nT; rw [updN_same, updN_same]; exact h)]
  unfold nL nT
  rw [updN_upd, updN_upd]
theorem n_give (hp : ∀ i, i < N → 0 ≤ g (18 + i)) (hk : k < N) (h4 : 4 ≤ frN g k ∧ frN g k ≤ 128) {j : Nat} (hj : j < frN g k) : zGive g N (nL g k (j + 1)) (nT g k (j + 1)) (sumF g k + yq (frN g k) false j) 0 = (0, nL g k j, nT g k j) := by
  obtain ⟨_, h, y0, y1⟩ := sq_take (n := frN g k) (by omega) (by omega) false j hj
  rw [zGive_at hp hk y0 y1 (e := 0) (M := (sq (frN g k) false j).1) (U := (sq (frN g k) false j).2) (by unfold nL nT; rw [updN_same, updN_same]; exact h)]
  unfold nL nT
  rw [updN_upd, updN_upd]
theorem n_state (hk : k < N) (h4 : 4 ≤ frN g k ∧ frN g k ≤ 128) {j : Nat} (hj : j ≤ frN g k) : zState g N (nL g k j) (k : Int) = zst g (frN g k - j) := by
  rw [zState_zst hk]
  unfold nL
  rw [updN_same, (sq_inv (n := frN g k) (by omega) (by omega) false j hj).2]
end
set_option maxRecDepth 100000 in
set_option maxHeartbeats 4000000 in
theorem lawStates_any (A : Array Value) (g : Nat → Int) (node : Int) (w : World) (hA : Cfg A g) :
    Calls Try.prog 7 #[.agg A, .int .i64 node] w fun e w' => e = .returned (.bool true) ∧ Below w.heap.size w w' := by
  obtain rfl : A = ofG g := Cfg.unique hA (cfg_ofG g)
  have C0 := CfgAt.new w hA
  have HA := Lib.hid hA
  have HB0 := Lib.hid ((Below.refl _ w).alloc (Nat.le_refl _) (.cells (ofG g) 26))
  have hs1 : (w.alloc (.cells (ofG g) 26)).heap.size = w.heap.size + 1 := by simp
  clear hA
  by_cases hm : mayB g = true
  · have HM := Lib.hid hm
    clear hm
    obtain ⟨i1, hi1, hz1, hs1', hb1'⟩ := info_parts intInfo7
    obtain ⟨i2, hi2, hz2, hs2', hb2'⟩ := info_parts stInfo7
    go_enter Try.func7, Try.ntmps7
    go_wp2_with (refine wpList_load_cfg rfl _ rfl _ rfl C0 ?_)
    have HC0 := Lib.hid C0
    clear C0
    generalize w.alloc (.cells (ofG g) 26) = w1 at *
    refine (znew6_any (ofG g) g w1 HA.out HM.out).mono ?_
    rintro e w2 ⟨Z, rfl, hZ, hb2, hall⟩
    have HZ := Lib.hid (ZsAt.new hZ HB0.out HC0.out hb2 hs1 hall)
    clear hZ hb2 hall HB0 HC0
    have c0 := HZ.out.c0
    by_cases hn : 0 ≤ node ∧ node < (Z.N : Int)
    · obtain ⟨k, rfl⟩ : ∃ k : Nat, node = k := ⟨node.toNat, by omega⟩
      have hk : k < Z.N := by omega
      have h8 := HZ.out.zn.n8
      have hk8 : (k : Int) < 8 := by omega
      have HFR := Lib.hid (HZ.out.fr hk)
      have HP := Lib.hid (fun i hi => (HZ.out.zn.pos i hi).1)
      have hkn : ¬ ((Z.N : Int) ≤ (k : Int)) := by omega
      have hd1 : decide ((k : Int) < 0) = false := decide_eq_false (by omega)
      have hd2 : decide (Z.N ≤ k) = false := decide_eq_false (by omega)
      go_wp2_with (fail)
      clear c0
      refine (zstate6_any HZ.out.zn k).mono ?_
      rintro e w' ⟨rfl, rfl⟩
      rw [← nL_zero (g := g) (k := k), n_state hk HFR.out (Nat.zero_le _)]
      have HZ0 := Lib.hid (show ZsAt w Z g (nL g k 0) (nT g k 0) w2.heap.size w2 by rw [nL_zero, nT_zero]; exact HZ.out)
      obtain ⟨n, hnn⟩ : ∃ n, frN g k = n := ⟨_, rfl⟩
      have cf := (HZ0.out.later ((Below.refl w2.heap.size w2).alloc (Nat.le_refl _) (.cells #[.int .i64 (zst g n)] 54))).cf hk
      have HOS := Lib.hid (World.ownsRow_lit (base := w2.heap.size) (e := 54) (size := 1) w2 #[.int .i64 (zst g n)] 1 (Nat.le_refl _) (by decide) rfl)
      have HZ1 := Lib.hid (HZ0.out.later ((Below.refl w2.heap.size w2).alloc (Nat.le_refl _) (.cells #[.int .i64 (zst g n)] 54)))
      have HNN := Lib.hid hnn
      rw [Nat.sub_zero, hnn]
      rw [hnn] at cf
      have hn4 : 4 ≤ n ∧ n ≤ 128 := by rw [← hnn]; exact HFR.out
      obtain ⟨B, hB⟩ : ∃ B, w2.heap.size = B := ⟨_, rfl⟩
      rw [hB] at HOS HZ1
      clear hnn HZ HZ0
      go_wp2_with (fail)
      clear cf
      generalize w2.alloc (.cells #[.int .i64 (zst g n)] 54) = w3 at *
      clear hB
      go_loopw [42, 8, 7] (fun i l s wr => ∃ (j : Nat) (la : Option Addr) (lc : Nat) (sa : Option Addr) (sc : Nat), i = .int .i64 j ∧ l = .slice la j lc ∧ s = .slice sa (j + 1) sc ∧ j ≤ n ∧ Hid (ZsAt w Z g (nL g k j) (nT g k j) B wr) ∧ Hid (wr.ownsRow B 3 1 (.slice la j lc) j (frmL g k n j)) ∧ Hid (wr.ownsRow B 54 1 (.slice sa (j + 1) sc) (j + 1) (stL g n (j + 1)))) (fun i _ _ _ => n - (intOf i).toNat)
      case atStart => exact ⟨0, none, 0, _, _, rfl, rfl, rfl, Nat.zero_le _, HZ1, World.ownsRow_nil _ _ _ _, HOS⟩
      case round =>
        clear HOS HZ1
        obtain ⟨j, la, lc, sa, sc, rfl, rfl, rfl, hj, HZ, HL, HS⟩ := hrel
        by_cases hlt : j < n
        · have hltI : (j : Int) < (n : Int) := by omega
          go_wp2_with (fail)
          refine (ztakeof6_any HZ.out.zn k 0 false).mono ?_
          rintro e w4 ⟨rfl, hA4, ho4⟩
          rw [n_take hk HFR.out (by rw [HNN.out]; exact hlt)] at hA4 ⊢
          have HZ4 := Lib.hid (HZ.out.turn hA4 ho4)
          have HL4 := Lib.hid (HZ.out.owns_turn HL.out ho4)
          have HS4 := Lib.hid (HZ.out.owns_turn HS.out ho4)
          clear hA4 ho4 HZ HL HS
          rw [HNN.out]
          have hsc := HS4.out
          obtain ⟨sb, rfl, hsB, hsl, hs4⟩ := owns_at hsc (j := j) (by omega)
          rw [stL_at g n (by omega)] at hs4
          have hyb : 0 ≤ sumF g k + yq n false j := by
            have h1 := (HZ4.out.zn.sum (k := k) (by omega)).1
            have h2 := (sq_take (n := n) (by omega) (by omega) false j hlt).2.2.1
            omega
          have HST := Lib.hid (n_state (g := g) hk HFR.out (j := j + 1) (by rw [HNN.out]; exact hlt))
          have hgt : decide (zst g (n - j) < zst g (n - (j + 1))) = false := decide_eq_false (by
            have := zst_mono (g := g) (show n - (j + 1) ≤ n - j by omega)
            omega)
          have L0 := Lib.hid (show ∀ U, U = w4.drew → (loadVar 54 ⟨sb, j, none⟩).run Try.prog U = .ok (.int .i64 (zst g (n - j))) U from fun U hU => run_loadVar_cell (fun _ => by kernel_rfl) (by rw [hU]; exact hs4))
          have hwj : IntKind.i64.wrap (j : Int) = (j : Int) := by rw [IntKind.wrap_i64]; omega
          have hjj : (0 : Int) ≤ (j : Int) ∧ (j : Int) < (j : Int) + 1 := by omega
          clear hsc hs4
          go_wp2_with (fail)
          refine wp_region_lex1 (fun W => W = w4.drew) [(0, false), (1, false), (2, false), (3, false), (4, false), (6, false), (7, false), (8, false), (9, false), (10, false), (11, false), (5, true), (12, false), (13, false)]
            (by kernel_rfl) (by kernel_rfl) rfl (by kernel_rfl) rfl ?_
          intro V0 hV0 hK0
          clear hK0
          subst hV0
          have HZ5 := Lib.hid (HZ4.out.later (Below.refl w4.heap.size w4).drew)
          have HL5 := Lib.hid (owns_later HL4.out (Below.refl w4.heap.size w4).drew)
          have HS5 := Lib.hid (owns_later HS4.out (Below.refl w4.heap.size w4).drew)
          clear HZ4 HL4 HS4
          refine lexH_yieldE rfl rfl ?_
          apply Exists.intro
          refine ⟨fun W hW => ?_, ?_⟩
          focus (go_simp; exact rfl)
          simp only [List.getElem_toArray, List.getElem_cons_zero, Act.put, List.setIfInBounds_toArray, List.set_cons_zero, List.set_cons_succ]
          refine lexH_yieldE rfl rfl ?_
          apply Exists.intro
          refine ⟨fun W hW => ?_, ?_⟩
          focus (go_simp; exact rfl)
          simp only [List.getElem_toArray, List.getElem_cons_succ, List.getElem_cons_zero, Act.put, List.setIfInBounds_toArray, List.set_cons_zero, List.set_cons_succ]
          refine lexH_yieldE rfl rfl ?_
          apply Exists.intro
          refine ⟨fun W hW => ?_, ?_⟩
          focus (go_simp; exact rfl)
          simp only [List.getElem_toArray, List.getElem_cons_succ, List.getElem_cons_zero, Act.put, List.setIfInBounds_toArray, List.set_cons_zero, List.set_cons_succ]
          refine lexH_yieldE rfl rfl ?_
          apply Exists.intro
          refine ⟨fun W hW => ?_, ?_⟩
          focus (go_simp; exact rfl)
          simp only [List.getElem_toArray, List.getElem_cons_succ, List.getElem_cons_zero, Act.put, List.setIfInBounds_toArray, List.set_cons_zero, List.set_cons_succ]
          refine lexH_yieldE rfl rfl ?_
          apply Exists.intro
          refine ⟨fun W hW => ?_, ?_⟩
          focus (go_simp; exact rfl)
          simp only [List.getElem_toArray, List.getElem_cons_succ, List.getElem_cons_zero, Act.put, List.setIfInBounds_toArray, List.set_cons_zero, List.set_cons_succ]
          refine lexH_yieldE rfl rfl ?_
          apply Exists.intro
          refine ⟨fun W hW => ?_, ?_⟩
          focus (go_simp; exact rfl)
          simp only [List.getElem_toArray, List.getElem_cons_succ, List.getElem_cons_zero, Act.put, List.setIfInBounds_toArray, List.set_cons_zero, List.set_cons_succ]
          refine lexH_yieldE rfl rfl ?_
          apply Exists.intro
          refine ⟨fun W hW => ?_, ?_⟩
          focus (go_simp; exact rfl)
          simp only [List.getElem_toArray, List.getElem_cons_succ, List.getElem_cons_zero, Act.put, List.setIfInBounds_toArray, List.set_cons_zero, List.set_cons_succ]
          refine lexH_yieldE rfl rfl ?_
          apply Exists.intro
          refine ⟨fun W hW => ?_, ?_⟩
          focus (go_simp; exact rfl)
          simp only [List.getElem_toArray, List.getElem_cons_succ, List.getElem_cons_zero, Act.put, List.setIfInBounds_toArray, List.set_cons_zero, List.set_cons_succ]
          refine lexH_yieldE rfl rfl ?_
          apply Exists.intro
          refine ⟨fun W hW => ?_, ?_⟩
          focus (go_simp; exact rfl)
          simp only [List.getElem_toArray, List.getElem_cons_succ, List.getElem_cons_zero, Act.put, List.setIfInBounds_toArray, List.set_cons_zero, List.set_cons_succ]
          refine lexH_yieldE rfl rfl ?_
          apply Exists.intro
          refine ⟨fun W hW => ?_, ?_⟩
          focus (go_simp; exact rfl)
          simp only [List.getElem_toArray, List.getElem_cons_succ, List.getElem_cons_zero, Act.put, List.setIfInBounds_toArray, List.set_cons_zero, List.set_cons_succ]
          refine lexH_load rfl rfl _ _ rfl rfl L0.out ?_
          simp only [List.getElem_toArray, List.getElem_cons_succ, List.getElem_cons_zero, Act.put, List.setIfInBounds_toArray, List.set_cons_zero, List.set_cons_succ]
          refine lexH_call 22 #[.pointer (some ⟨Z.z, 0, none⟩), .int .i64 k] rfl rfl ?_ ?_
          focus (go_simp; done)
          refine (zstate6_any HZ5.out.zn k).mono ?_
          rintro e w5 ⟨rfl, rfl⟩
          refine ⟨_, rfl, rfl, ?_⟩
          rw [HST.out, HNN.out]
          clear L0
          simp only [List.getElem_toArray, List.getElem_cons_succ, List.getElem_cons_zero, Act.put, List.setIfInBounds_toArray, List.set_cons_zero, List.set_cons_succ]
          refine lexH_yieldE rfl rfl ?_
          apply Exists.intro
          refine ⟨fun W hW => ?_, ?_⟩
          focus (go_simp; exact rfl)
          simp only [List.getElem_toArray, List.getElem_cons_succ, List.getElem_cons_zero, Act.put, List.setIfInBounds_toArray, List.set_cons_zero, List.set_cons_succ]
          refine lexH_yieldE rfl rfl ?_
          apply Exists.intro
          refine ⟨fun W hW => ?_, ?_⟩
          focus (go_simp; exact rfl)
          simp only [List.getElem_toArray, List.getElem_cons_succ, List.getElem_cons_zero, Act.put, List.setIfInBounds_toArray, List.set_cons_zero, List.set_cons_succ]
          refine lexH_nil ?_
          clear hgt hwj hjj
          obtain ⟨y, hy⟩ : ∃ y, sumF g k + yq n false j = y := ⟨_, rfl⟩
          have HY := Lib.hid (show frmL g k n (j + 1) = frmL g k n j ++ (#[Value.int .i64 y] : Array Value).toList by rw [frmL_one, hy])
          rw [hy]
          clear hy hyb
          generalize w4.drew = w5 at *
          go_wp2_with (first | (at_builtin; refine wpList_append_one w5 rfl _ _ 37 rfl B 3 i1 _ 1 8 Try.underlying37 hi1 hz1 hs1' hb1' rfl (by decide) _ _ _ #[.int .i64 y] HL5.out HZ5.out.bw rfl rfl rfl (one_cell_int y) (by omega) (by decide) ?_) | fail)
          intro v6 w6 hown6 ho6 _
          obtain ⟨la6, lc6, hv6, _⟩ := owns_slice hown6
          subst hv6
          have HZ6 := Lib.hid (HZ5.out.only ho6 (fun q h => (HL5.out.lt q h).1))
          have HS6 := Lib.hid (owns_only HS5.out ho6 (fun q h1 h2 => owns_apart HL5.out HS5.out (by decide) h2 h1))
          have HL6 := Lib.hid (show w6.ownsRow B 3 1 (.slice la6 (j + 1) lc6) (j + 1) (frmL g k n (j + 1)) by rw [HY.out]; exact hown6)
          clear hown6 ho6 HZ5 HL5 HS5 HY
          go_wp2_with (fail)
          refine (zstate6_any HZ6.out.zn k).mono ?_
          rintro e w' ⟨rfl, rfl⟩
          rw [HST.out, HNN.out]
          obtain ⟨s, hs⟩ : ∃ s, zst g (n - (j + 1)) = s := ⟨_, rfl⟩
          have HSS := Lib.hid (show stL g n (j + 1 + 1) = stL g n (j + 1) ++ (#[Value.int .i64 s] : Array Value).toList by rw [stL_one, hs])
          rw [hs]
          clear hs
          go_wp2_with (first | (at_builtin; refine wpList_append_one w6 rfl _ _ 61 rfl B 54 i2 _ 1 8 Try.underlying61 hi2 hz2 hs2' hb2' rfl (by decide) _ _ _ #[.int .i64 s] HS6.out HZ6.out.bw rfl rfl rfl (one_cell_int s) (by omega) (by decide) ?_) | fail)
          intro v7 w7 hown7 ho7 _
          obtain ⟨sa7, sc7, hv7, _⟩ := owns_slice hown7
          subst hv7
          have HZ7 := Lib.hid (HZ6.out.only ho7 (fun q h => (HS6.out.lt q h).1))
          have HL7 := Lib.hid (owns_only HL6.out ho7 (fun q h1 h2 => owns_apart HS6.out HL6.out (by decide) h2 h1))
          have HS7 := Lib.hid (show w7.ownsRow B 54 1 (.slice sa7 (j + 1 + 1) sc7) (j + 1 + 1) (stL g n (j + 1 + 1)) by rw [HSS.out]; exact hown7)
          clear hown7 ho7 HZ6 HL6 HS6 HSS HST
          go_wp2_with (fail)
          go_roundw
          case rel => exact ⟨j + 1, _, _, _, _, by go_num, rfl, rfl, hlt, HZ7, HL7, HS7⟩
          case measure => simp [intOf]; omega
        · obtain rfl : j = n := by omega
          go_wp2_with (fail)
          refine (zstate6_any HZ.out.zn k).mono ?_
          rintro e w' ⟨rfl, rfl⟩
          have hst : zst g 0 = 0 := by
            have := HZ.out.zn.good.min0
            unfold zst
            rw [if_pos (by omega)]
          rw [n_state hk HFR.out (by rw [HNN.out]; exact Nat.le_refl _), HNN.out, Nat.sub_self, hst]
          clear hst
          go_wp2_with (fail)
          go_loopw [11] (fun i wx => ∃ p : Nat, i = .int .i64 ((p : Int) - 1) ∧ p ≤ j ∧ Hid (ZsAt w Z g (nL g k p) (nT g k p) B wx) ∧ Hid (wx.ownsRow B 3 1 (.slice la j lc) j (frmL g k j j)) ∧ Hid (wx.ownsRow B 54 1 (.slice sa (j + 1) sc) (j + 1) (stL g j (j + 1)))) (fun i _ => (intOf i + 1).toNat)
          case atStart => exact ⟨j, rfl, Nat.le_refl _, HZ, HL, HS⟩
          case round =>
            clear HZ HL HS
            obtain ⟨p, rfl, hp, HZ, HL, HS⟩ := hrel
            by_cases hp0 : 0 < p
            · obtain ⟨q, rfl⟩ : ∃ q, p = q + 1 := ⟨p - 1, by omega⟩
              have hq : q < j := by omega
              have hcast : ((q + 1 : Nat) : Int) - 1 = (q : Int) := by omega
              rw [hcast]
              clear hcast hp0
              have hwq : IntKind.i64.wrap (q : Int) = (q : Int) := by rw [IntKind.wrap_i64]; omega
              have hlc := HL.out
              have hsc := HS.out
              obtain ⟨lb, rfl, hlB, hll, hl4⟩ := owns_at hlc (j := q) hq
              obtain ⟨sb, rfl, hsB, hsl, hs4⟩ := owns_at hsc (j := q) (by omega)
              rw [frmL_at g k j hq] at hl4
              rw [stL_at g j (by omega)] at hs4
              obtain ⟨y, hy⟩ : ∃ y, sumF g k + yq j false q = y := ⟨_, rfl⟩
              obtain ⟨s, hs⟩ : ∃ s, zst g (j - q) = s := ⟨_, rfl⟩
              rw [hy] at hl4
              rw [hs] at hs4
              have hyb : y ≤ 9223372036854775807 := by
                have h1 := (HZ.out.zn.sum (k := k) (by omega)).2
                have h2 := (sq_take (n := j) (by omega) (by omega) false q hq).2.2.2
                omega
              have HG := Lib.hid (n_give (N := Z.N) HP.out hk HFR.out (j := q) (by rw [HNN.out]; exact hq))
              rw [HNN.out, hy] at HG
              have HST := Lib.hid (n_state (g := g) hk HFR.out (j := q) (by rw [HNN.out]; omega))
              rw [HNN.out, hs] at HST
              have L0 := Lib.hid (show ∀ U, Only Z.maps wr.drew U → (loadVar 3 ⟨lb, q, none⟩).run Try.prog U = .ok (.int .i64 y) U from fun U hU => run_loadVar_cell (fun _ => by kernel_rfl) (hU.cell (HZ.out.no_maps hlB) hl4))
              have L1 := Lib.hid (show ∀ U, Only Z.maps wr.drew U → (loadVar 54 ⟨sb, q, none⟩).run Try.prog U = .ok (.int .i64 s) U from fun U hU => run_loadVar_cell (fun _ => by kernel_rfl) (hU.cell (HZ.out.no_maps hsB) hs4))
              have hqj : (0 : Int) ≤ (q : Int) ∧ (q : Int) < (j : Int) ∧ (q : Int) < (j : Int) + 1 := by omega
              clear hlc hsc hl4 hs4 hy hs
              go_wp2_with (fail)
              refine wp_region_lex1 (Only Z.maps wr.drew) [(0, false), (1, false), (2, false), (3, false), (4, false), (5, true), (6, false), (7, false), (8, false), (9, false), (11, false), (12, false), (13, false), (14, false), (10, true), (15, false), (16, false)]
                (by kernel_rfl) (by kernel_rfl) rfl (by kernel_rfl) (Only.refl _ _) ?_
              intro V0 hV0 hK0
              clear hK0
              subst hV0
              have HZ5 := Lib.hid (HZ.out.later (Below.refl wr.heap.size wr).drew)
              have HL5 := Lib.hid (owns_later HL.out (Below.refl wr.heap.size wr).drew)
              have HS5 := Lib.hid (owns_later HS.out (Below.refl wr.heap.size wr).drew)
              clear HZ HL HS
              refine lexH_yieldE rfl rfl ?_
              apply Exists.intro
              refine ⟨fun W hW => ?_, ?_⟩
              focus (go_simp; exact rfl)
              simp only [List.getElem_toArray, List.getElem_cons_zero, Act.put, List.setIfInBounds_toArray, List.set_cons_zero, List.set_cons_succ]
              refine lexH_yieldE rfl rfl ?_
              apply Exists.intro
              refine ⟨fun W hW => ?_, ?_⟩
              focus (go_simp; exact rfl)
              simp only [List.getElem_toArray, List.getElem_cons_succ, List.getElem_cons_zero, Act.put, List.setIfInBounds_toArray, List.set_cons_zero, List.set_cons_succ]
              refine lexH_yieldE rfl rfl ?_
              apply Exists.intro
              refine ⟨fun W hW => ?_, ?_⟩
              focus (go_simp; exact rfl)
              simp only [List.getElem_toArray, List.getElem_cons_succ, List.getElem_cons_zero, Act.put, List.setIfInBounds_toArray, List.set_cons_zero, List.set_cons_succ]
              refine lexH_yieldE rfl rfl ?_
              apply Exists.intro
              refine ⟨fun W hW => ?_, ?_⟩
              focus (go_simp; exact rfl)
              simp only [List.getElem_toArray, List.getElem_cons_succ, List.getElem_cons_zero, Act.put, List.setIfInBounds_toArray, List.set_cons_zero, List.set_cons_succ]
              refine lexH_load rfl rfl _ _ rfl rfl L0.out ?_
              simp only [List.getElem_toArray, List.getElem_cons_succ, List.getElem_cons_zero, Act.put, List.setIfInBounds_toArray, List.set_cons_zero, List.set_cons_succ]
              refine lexH_call 17 #[.pointer (some ⟨Z.z, 0, none⟩), .int .i64 y, .int .i64 0] rfl rfl ?_ ?_
              focus (go_simp; done)
              refine (zgive6_any HZ5.out.zn y 0 hyb).mono ?_
              rintro e w6 ⟨rfl, hA6, ho6⟩
              rw [HG.out] at hA6 ⊢
              have HZ6 := Lib.hid (HZ5.out.turn hA6 ho6)
              have HL6 := Lib.hid (HZ5.out.owns_turn HL5.out ho6)
              have HS6 := Lib.hid (HZ5.out.owns_turn HS5.out ho6)
              refine ⟨_, rfl, ho6, ?_⟩
              clear hA6 HZ5 HL5 HS5 HG
              have HO6 := Lib.hid ho6
              clear ho6
              simp only [List.getElem_toArray, List.getElem_cons_succ, List.getElem_cons_zero, Act.put, List.setIfInBounds_toArray, List.set_cons_zero, List.set_cons_succ]
              refine lexH_yieldE rfl rfl ?_
              apply Exists.intro
              refine ⟨fun W hW => ?_, ?_⟩
              focus (go_simp; exact rfl)
              simp only [List.getElem_toArray, List.getElem_cons_succ, List.getElem_cons_zero, Act.put, List.setIfInBounds_toArray, List.set_cons_zero, List.set_cons_succ]
              refine lexH_yieldE rfl rfl ?_
              apply Exists.intro
              refine ⟨fun W hW => ?_, ?_⟩
              focus (go_simp; exact rfl)
              simp only [List.getElem_toArray, List.getElem_cons_succ, List.getElem_cons_zero, Act.put, List.setIfInBounds_toArray, List.set_cons_zero, List.set_cons_succ]
              refine lexH_yieldE rfl rfl ?_
              apply Exists.intro
              refine ⟨fun W hW => ?_, ?_⟩
              focus (go_simp; exact rfl)
              simp only [List.getElem_toArray, List.getElem_cons_succ, List.getElem_cons_zero, Act.put, List.setIfInBounds_toArray, List.set_cons_zero, List.set_cons_succ]
              refine lexH_yieldE rfl rfl ?_
              apply Exists.intro
              refine ⟨fun W hW => ?_, ?_⟩
              focus (go_simp; exact rfl)
              simp only [List.getElem_toArray, List.getElem_cons_succ, List.getElem_cons_zero, Act.put, List.setIfInBounds_toArray, List.set_cons_zero, List.set_cons_succ]
              refine lexH_yieldE rfl rfl ?_
              apply Exists.intro
              refine ⟨fun W hW => ?_, ?_⟩
              focus (go_simp; exact rfl)
              simp only [List.getElem_toArray, List.getElem_cons_succ, List.getElem_cons_zero, Act.put, List.setIfInBounds_toArray, List.set_cons_zero, List.set_cons_succ]
              refine lexH_yieldE rfl rfl ?_
              apply Exists.intro
              refine ⟨fun W hW => ?_, ?_⟩
              focus (go_simp; exact rfl)
              simp only [List.getElem_toArray, List.getElem_cons_succ, List.getElem_cons_zero, Act.put, List.setIfInBounds_toArray, List.set_cons_zero, List.set_cons_succ]
              refine lexH_yieldE rfl rfl ?_
              apply Exists.intro
              refine ⟨fun W hW => ?_, ?_⟩
              focus (go_simp; exact rfl)
              simp only [List.getElem_toArray, List.getElem_cons_succ, List.getElem_cons_zero, Act.put, List.setIfInBounds_toArray, List.set_cons_zero, List.set_cons_succ]
              refine lexH_load rfl rfl _ _ rfl rfl L1.out ?_
              simp only [List.getElem_toArray, List.getElem_cons_succ, List.getElem_cons_zero, Act.put, List.setIfInBounds_toArray, List.set_cons_zero, List.set_cons_succ]
              refine lexH_call 22 #[.pointer (some ⟨Z.z, 0, none⟩), .int .i64 k] rfl rfl ?_ ?_
              focus (go_simp; done)
              refine (zstate6_any HZ6.out.zn k).mono ?_
              rintro e w' ⟨rfl, rfl⟩
              refine ⟨_, rfl, HO6.out, ?_⟩
              rw [HST.out]
              clear L0 L1 HST HO6
              simp only [List.getElem_toArray, List.getElem_cons_succ, List.getElem_cons_zero, Act.put, List.setIfInBounds_toArray, List.set_cons_zero, List.set_cons_succ]
              refine lexH_yieldE rfl rfl ?_
              apply Exists.intro
              refine ⟨fun W hW => ?_, ?_⟩
              focus (go_simp; exact rfl)
              simp only [List.getElem_toArray, List.getElem_cons_succ, List.getElem_cons_zero, Act.put, List.setIfInBounds_toArray, List.set_cons_zero, List.set_cons_succ]
              refine lexH_yieldE rfl rfl ?_
              apply Exists.intro
              refine ⟨fun W hW => ?_, ?_⟩
              focus (go_simp; exact rfl)
              simp only [List.getElem_toArray, List.getElem_cons_succ, List.getElem_cons_zero, Act.put, List.setIfInBounds_toArray, List.set_cons_zero, List.set_cons_succ]
              refine lexH_nil ?_
              clear hwq hqj hyb
              go_wp2_with (fail)
              go_roundw
              case rel => exact ⟨q, by go_num, by omega, HZ6, HL6, HS6⟩
              case measure => simp [intOf]
            · obtain rfl : p = 0 := by omega
              rw [show ((0 : Nat) : Int) - 1 = -1 from rfl]
              go_wp2_with (fail)
              refine (zknown_any wr).mono ?_
              rintro e w3 ⟨rfl, hb⟩
              have HB := Lib.hid (HZ.out.bel.trans (hb.mono HZ.out.bel.size))
              clear hb
              go_wp2_with (fail)
              go_ret
              exact ⟨rfl, HB.out⟩
    · have hnn : node < 0 ∨ (Z.N : Int) ≤ node := by omega
      rcases hnn with h | h
      · go_wp2_with (fail)
        refine (zknown_any w2).mono ?_
        rintro e w3 ⟨rfl, hb⟩
        have HB := Lib.hid (HZ.out.bel.trans (hb.mono HZ.out.bel.size))
        clear hb c0
        go_wp2_with (fail)
        go_ret
        exact ⟨rfl, HB.out⟩
      · have h2 : ¬ node < 0 := by omega
        go_wp2_with (fail)
        refine (zknown_any w2).mono ?_
        rintro e w3 ⟨rfl, hb⟩
        have HB := Lib.hid (HZ.out.bel.trans (hb.mono HZ.out.bel.size))
        clear hb c0
        go_wp2_with (fail)
        go_ret
        exact ⟨rfl, HB.out⟩
  · have HM := Lib.hid (show mayB g = false by simpa using hm)
    clear hm
    go_enter Try.func7, Try.ntmps7
    go_wp2_with (refine wpList_load_cfg rfl _ rfl _ rfl C0 ?_)
    clear C0
    generalize w.alloc (.cells (ofG g) 26) = w1 at *
    refine (znew6_no (ofG g) g w1 HA.out HM.out).mono ?_
    rintro e w2 ⟨rfl, hb⟩
    have HB := Lib.hid (HB0.out.trans (hb.mono HB0.out.size))
    clear hb
    go_wp2_with (fail)
    refine (zknown_any w2).mono ?_
    rintro e w3 ⟨rfl, hb⟩
    have HB2 := Lib.hid (HB.out.trans (hb.mono HB.out.size))
    clear hb
    go_wp2_with (fail)
    go_ret
    exact ⟨rfl, HB2.out⟩
end
end Go.Proofs.Ytdpnmjlapgldgaa
