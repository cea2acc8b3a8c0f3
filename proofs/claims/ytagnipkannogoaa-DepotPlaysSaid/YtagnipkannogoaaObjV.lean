/-
  Objects: a record of two ints; lists of them that lie somewhere, that are a law's own, that are written over; append to a row of whatever length, and where it lies; slices.Clone; the document's Same. Of no program that has api.Object.
-/
import Derived.Test.YtagnipkannogoaaOwn
import Derived.Test.YtagnipkannogoaaKept
import Derived.Test.YtagnipkannogoaaRec
import Derived.Test.YtagnipkannogoaaLexApp
import Derived.Test.YtagnipkannogoaaNilZero
import Derived.Test.YtagnipkannogoaaAppAt
import Derived.Laws.AppendOwn
import Derived.Deep.QuietTactic
namespace Go.Proofs.Ytagnipkannogoaa
open Go.RowKit Go

theorem infoObj : (Try.prog.info? 38).map (fun i => (i.zero, i.size, i.bytes)) = some (some (.agg #[.int .i64 0, .int .i64 0]), 2, 16) := by kernel_rfl
abbrev Ob := Int × Int
abbrev Obs := List (Int × Int)
/-- An object's cells. -/
def encO (p : Ob) : List Value := [.int .i64 p.1, .int .i64 p.2]
def objV (p : Ob) : Value := .agg #[.int .i64 p.1, .int .i64 p.2]
theorem encO_len : ∀ p, (encO p).length = 2 := fun _ => rfl
theorem encO_one : ∀ p, ∀ u ∈ encO p, u.oneCell' = true := by
  intro p u h
  simp [encO] at h
  rcases h with rfl | rfl <;> rfl
theorem obj_one (x y : Int) : ∀ u, u ∈ (#[Value.int .i64 x, .int .i64 y] : Array Value).toList → u.oneCell' = true := encO_one (x, y)
theorem takeN_next {α : Type} {L : List α} {k : Nat} (h : k < L.length) : L.take (k + 1) = L.take k ++ [L[k]] := by
  rw [List.take_add_one, List.getElem?_eq_getElem h]; rfl
theorem sizeObj : (Try.prog.info? 38).map (·.size) = some 2 := by kernel_rfl
theorem load_obj {W : World} {g o : Nat} {x y : Int} (h0 : W.cell? ⟨g, o, none⟩ = some (.int .i64 x)) (h1 : W.cell? ⟨g, o + 1, none⟩ = some (.int .i64 y)) :
    (loadVar 38 ⟨g, o, none⟩).run Try.prog W = .ok (.agg #[.int .i64 x, .int .i64 y]) W :=
  run_loadVar_mid (P := Try.prog) W g o 38 [.int .i64 x, .int .i64 y] _ (fun j v hj => by
    match j, hj with
    | 0, hj => simp at hj; subst hj; exact h0
    | 1, hj => simp at hj; subst hj; exact h1) Try.underlying38 rfl sizeObj
theorem store_obj (w : World) (Z : Array Value) (hz : Z.size = 2) (x y : Int) :
    (storeVar 38 ⟨w.heap.size, 0, none⟩ (.agg #[.int .i64 x, .int .i64 y])).run Try.prog (w.alloc (.cells Z 38)) = .ok () (w.alloc (.cells #[.int .i64 x, .int .i64 y] 38)) :=
  run_storeVar_new (P := Try.prog) w 38 Z _ sizeObj hz (by simp [Value.oneCell'])
theorem obj_all (x y : Int) : (#[Value.int .i64 x, .int .i64 y] : Array Value).all (·.oneCell') = true := by simp [Value.oneCell']
/-- An object's cells, by numbers. -/
def obV (x y : Int) (i : Nat) : Value := if i = 0 then .int .i64 x else .int .i64 y
theorem obj_row (w : World) (x y : Int) : RowAt (w.alloc (.cells #[.int .i64 x, .int .i64 y] 38)) w.heap.size 2 (obV x y) :=
  RowAt.new w _ _ _ _ fun i hi => by
    rcases (show i = 0 ∨ i = 1 by omega) with rfl | rfl <;> rfl
theorem set_obj {w : World} {B : Nat} {x0 y0 : Int} (R : RowAt w B 2 (obV x0 y0)) (x y : Int) : RowAt ((w.setCell ⟨B, 0, none⟩ (.int .i64 x)).setCell ⟨B, 1, none⟩ (.int .i64 y)) B 2 (obV x y) :=
  ((R.setCell 0 _).setCell 1 _).ext fun i hi => by
    unfold updV obV
    rcases (show i = 0 ∨ i = 1 by omega) with rfl | rfl <;> simp
/-- Two results, the first an object that lies in a cell. -/
theorem ret_obj {fn : Func} {p u : Tmp} (h : fn.results = #[.cell p 38, .tmp u]) {a : Act} {w : World} {Q : Ending → World → Prop} {B : Nat} {x y : Int} {b : Value} (hp : a.tmps.getD p undef = .pointer (some ⟨B, 0, none⟩)) (hu : a.tmps.getD u undef = b) (hd : a.defers = [])
    (R : RowAt w B 2 (obV x y)) (hR : Q (.returned (.tuple #[.agg #[.int .i64 x, .int .i64 y], b])) w) : bodyPost Try.prog fn Q .ret a w := by
  refine bodyPost_ret_by ?_ hd hR
  rw [results_cell_tmp h, hp, hu]
  have hl := load_obj (R.cell 0 (by decide)) (R.cell 1 (by decide))
  simp only [asAddr, Sem.run_pure, Result.andThen_ok, hl]

abbrev TO : TypeId := 38
section
variable {w w1 W : World} {N : Nat} {L O : Obs}
theorem owns_len {base n : Nat} {T : TypeId} {v : Value} {xs : List Value} (h : w.ownsRow base T 2 v n xs) : ∃ a c, v = .slice a n c := by
  obtain ⟨a, c, e, _⟩ := owns_slice h
  exact ⟨a, c, e⟩
/-- A row's i-th object. -/
theorem owns_get {base : Nat} {v : Value} (h : w.ownsRow base TO 2 v L.length (recV encO L)) (i : Nat) (hi : i < L.length) : ∃ g c, v = .slice (some ⟨g, 0, none⟩) L.length c ∧ v.ownBlock = some g ∧ base ≤ g ∧ g < w.heap.size ∧ w.cell? ⟨g, i * 2, none⟩ = some (.int .i64 L[i].1) ∧ w.cell? ⟨g, i * 2 + 1, none⟩ = some (.int .i64 L[i].2) := by
  obtain ⟨a, c, e, hr⟩ := RecsAt.of_owns h
  obtain ⟨g, rfl, hg, hlt, hx⟩ := hr.get encO_len i hi
  exact ⟨g, c, e, by rw [e]; rfl, hg, hlt, hx 0 _ rfl, hx 1 _ rfl⟩
/-- A row cut down to its first n. -/
theorem owns_take {base n k c : Nat} {T : TypeId} {a : Option Addr} {xs : List Value} {size : Nat} (h : w.ownsRow base T size (.slice a n c) n xs) (hk : k ≤ n) : w.ownsRow base T size (.slice a k c) k (xs.take (k * size)) := by
  obtain ⟨hl, h⟩ := h
  have hks : k * size ≤ n * size := Nat.mul_le_mul_right _ hk
  rcases h with ⟨e1, hn⟩ | ⟨g, cap, cur, e1, hb, hg, h1, h2, h3, h4⟩
  · injection e1 with e2 e4 e3
    subst e2
    subst e3
    obtain rfl : k = 0 := by omega
    exact ⟨by simp, .inl ⟨rfl, rfl⟩⟩
  · injection e1 with e2 _ e3
    subst e2
    subst e3
    refine ⟨by rw [List.length_take, hl]; omega, .inr ⟨g, c, cur, rfl, hb, hg, by omega, h2, h3, ?_⟩⟩
    rw [← h4, List.take_take, Nat.min_eq_left hks]
theorem owns_takeO {base k c : Nat} {a : Option Addr} (h : w.ownsRow base TO 2 (.slice a L.length c) L.length (recV encO L)) (hk : k ≤ L.length) : w.ownsRow base TO 2 (.slice a k c) (L.take k).length (recV encO (L.take k)) := by
  have h1 := owns_take h hk
  rw [recV_take encO_len] at h1
  rw [show (L.take k).length = k by rw [List.length_take]; omega]
  exact h1
theorem obj_src {w : World} {b : Nat} {x y : Int} (R : RowAt w b 2 (obV x y)) : ∀ (j : Nat) (u : Value), (encO (x, y))[j]? = some u → w.cell? ((⟨b, 0, none⟩ : Addr).add j) = some u := fun j u hj => by
  rw [Addr.add_lit, Nat.zero_add]
  match j, hj with
  | 0, hj => simp [encO] at hj; subst hj; exact R.cell 0 (by decide)
  | 1, hj => simp [encO] at hj; subst hj; exact R.cell 1 (by decide)
/-- Objects that lie somewhere. -/
def SrcO (w : World) (v : Value) (l : Obs) : Prop := ∃ a c, v = .slice a l.length c ∧ (0 < l.length → ∃ ad, a = some ad ∧ ∀ j u, (recV encO l)[j]? = some u → w.cell? (ad.add j) = some u)
theorem SrcO.later {v : Value} {l : Obs} (h : SrcO w v l) (hb : Below w.heap.size w W) : SrcO W v l := by
  obtain ⟨a, c, e, hh⟩ := h
  refine ⟨a, c, e, fun hp => ?_⟩
  obtain ⟨ad, e2, h2⟩ := hh hp
  refine ⟨ad, e2, fun j u hj => ?_⟩
  have hc := h2 j u hj
  rw [World.cell?_of_block (hb.block _ (World.block_lt_of_cell? _ _ hc))]
  exact hc
theorem SrcO.of_owns {base : Nat} {v : Value} {l : Obs} (h : w.ownsRow base TO 2 v l.length (recV encO l)) : SrcO w v l := by
  obtain ⟨a, cap, e, hr⟩ := RecsAt.of_owns h
  exact ⟨a, cap, e, hr.src encO_len⟩
theorem SrcO.only {S : Nat → Prop} {v : Value} {l : Obs} (h : SrcO w v l) (ho : Only S w W) (hs : ∀ k, v.ownBlock = some k → ¬ S k) : SrcO W v l := by
  obtain ⟨a, c, rfl, hh⟩ := h
  refine ⟨a, c, rfl, fun hp => ?_⟩
  obtain ⟨ad, rfl, h2⟩ := hh hp
  refine ⟨ad, rfl, fun j u hj => ?_⟩
  have hc := h2 j u hj
  rw [World.cell?_of_block (ho.block _ (World.block_lt_of_cell? _ _ hc) (by
    have h3 := hs ad.block rfl
    rw [show (ad.add j).block = ad.block by unfold Addr.add; split <;> rfl]
    exact h3))]
  exact hc
end
theorem wpList_slice_run {P : Program} {w : World} {ops : Array Oper} {rest : List Oper} {o : Oper} {a : Act} {Q : Exit → Act → World → Prop} (hgd : o.guard = none) (t : TypeId) (x : Operand) (lo hh mx : Option Operand) (ho : o.op = .slice t x lo hh mx) (v : Value)
    (hv : (Instr.sliceAt t (a.eval x) (lo.map a.eval) (hh.map a.eval) (mx.map a.eval)).run P w = .ok v w) (h : wpList P ops Q rest (a.put o.dst v) w) : wpList P ops Q (o :: rest) a w :=
  wpList_plain hgd fun _ hK => by
    unfold Oper.wp execOp
    simp only [ho, Sem.run_bind, Sem.run_pure, Result.andThen_ok, hv]
    exact hK _ _ h
theorem wpList_alloc_obj {w : World} {ops : Array Oper} {rest : List Oper} {o : Oper} {a : Act} {Q : Exit → Act → World → Prop} (hgd : o.guard = none) (ho : o.op = .alloc TO)
    (h : ∀ W, W = w.alloc (.cells #[.int .i64 0, .int .i64 0] TO) → wpList Try.prog ops Q rest (a.put o.dst (.pointer (some ⟨w.heap.size, 0, none⟩))) W) : wpList Try.prog ops Q (o :: rest) a w :=
  wpList_plain hgd fun _ hK => by
    unfold Oper.wp execOp
    simp only [ho]
    go_simp
    exact hK _ _ (h _ rfl)
section
variable {w W : World}
/-- A list of the call's own is told. -/
def AllP (w : World) (l : Obs) (e : Ending) (w' : World) : Prop := ∃ v, e = .returned v ∧ w'.ownsRow w.heap.size TO 2 v l.length (recV encO l) ∧ Below w.heap.size w w'
theorem slice_no (ad : Addr) (n c : Nat) (W : World) : (binOp .eql 30 (.slice (some ad) n c) (.slice none 0 0)).run Try.prog W = .ok (.bool false) W := by kernel_rfl
set_option maxRecDepth 100000 in
set_option maxHeartbeats 4000000 in
theorem clone_any {v : Value} {l : Obs} (h : SrcO w v l) (hp : 0 < l.length) (hn : l.length ≤ 1000) : Calls Try.prog 28 #[v] w (AllP w l) := by
  obtain ⟨i0, hi, hz0, hz1, hz2⟩ := info_parts infoObj
  have HS := Lib.hid h
  obtain ⟨a, cp, rfl, hsrc⟩ := h
  obtain ⟨ad, rfl, _⟩ := hsrc hp
  have hba : Below w.heap.size w (w.alloc (.cells #[] TO)) := (Below.refl _ _).alloc (Nat.le_refl _) _
  have HW := Lib.hid (World.ownsRow_made w (e := TO) (base := w.heap.size) (size := 2) #[] 0 (Nat.le_refl _) (Nat.zero_le _) (by simp))
  have HB := Lib.hid hba
  have HSR := Lib.hid (show 0 < l.length → ∃ ad', some ad = some ad' ∧ ∀ j u, (recV encO l)[j]? = some u → (w.alloc (.cells #[] TO)).cell? (ad'.add j) = some u from by
    obtain ⟨a2, c2, e2, h2⟩ := HS.out.later hba
    injection e2 with e2 _ _
    intro hp
    obtain ⟨ad2, e3, h3⟩ := h2 hp
    exact ⟨ad2, by rw [e2, e3], h3⟩)
  have HLE := Lib.hid hba.size
  clear hba hp hsrc HS
  have hne := slice_no
  go_enter Try.func28, Try.ntmps28
  go_wp2_with (first | (at_builtin; refine wpList_append_src _ rfl _ _ 30 rfl w.heap.size 38 i0 _ 2 16 Try.underlying30 hi hz0 hz1 hz2 rfl (by decide) _ _ _ rfl HW.out (some ad) l.length cp (recV encO l) rfl (recV_len encO_len _) HSR.out (recV_one encO_one _) (by unfold maxLen; omega) (by omega) HLE.out ?_; intro v3 w3 hown3 hgr3 _) | fail)
  have HP := Lib.hid (show AllP w l (.returned v3) w3 from ⟨_, rfl, by rw [Nat.zero_add, List.nil_append] at hown3; exact hown3, (Only.of_grown hgr3).below HB.out HB.out.size (fun k hk => (HW.out.lt k hk).1)⟩)
  clear hown3 hgr3 HB HW HSR HLE
  go_wp2_with (fail)
  go_ret
  exact HP.out
end
theorem SrcO.get {w : World} {v : Value} {A : Obs} (h : SrcO w v A) {k : Nat} (hk : k < A.length) : ∃ b o c, v = .slice (some ⟨b, o, none⟩) A.length c ∧ w.cell? ⟨b, o + k * 2, none⟩ = some (.int .i64 A[k].1) ∧ w.cell? ⟨b, o + k * 2 + 1, none⟩ = some (.int .i64 A[k].2) := by
  obtain ⟨a, c, e, hh⟩ := h
  obtain ⟨ad, rfl, h2⟩ := hh (by omega)
  have g0 := h2 _ _ (recV_at encO_len A k A[k] (List.getElem?_eq_getElem hk) 0 _ rfl)
  have g1 := h2 _ _ (recV_at encO_len A k A[k] (List.getElem?_eq_getElem hk) 1 _ rfl)
  obtain ⟨b, o, sp⟩ := ad
  have hz := h2 0 _ (by
    have := recV_at encO_len A 0 A[0] (List.getElem?_eq_getElem (by omega)) 0 _ rfl
    simpa using this)
  have hsp : sp = none := by
    have h3 := World.cell?_spot hz
    simpa [Addr.add] using h3
  subst hsp
  rw [Addr.add_lit] at g0 g1
  exact ⟨b, o, c, e, g0, g1⟩
set_option maxRecDepth 100000 in
set_option maxHeartbeats 8000000 in
/-- Two lists that are alike. -/
theorem same_any {w : World} {u v : Value} {A : Obs} (hu : SrcO w u A) (hv : SrcO w v A) (hn : A.length ≤ 1000) : Calls Try.prog 22 #[u, v] w fun e w' => e = .returned (.bool true) ∧ Below w.heap.size w w' := by
  have HU := Lib.hid hu
  have HV := Lib.hid hv
  obtain ⟨ua, uc, rfl, _⟩ := hu
  obtain ⟨va, vc, rfl, _⟩ := hv
  have HB0 := Lib.hid (Below.refl w.heap.size w)
  go_enter Try.func22, Try.ntmps22
  go_wp2_with (fail)
  go_loopw [5] (fun i wr => ∃ k : Nat, k ≤ A.length ∧ i = .int .i64 k ∧ Hid (Below w.heap.size w wr)) (fun i _ => A.length - (intOf i).toNat)
  case atStart => exact ⟨0, Nat.zero_le _, rfl, HB0⟩
  case round =>
    clear HB0
    obtain ⟨k, hk, rfl, HB⟩ := hrel
    by_cases hlt : k < A.length
    · have hltI : (k : Int) < (A.length : Int) := by omega
      have hgu := (HU.out.later HB.out).get hlt
      have hgv := (HV.out.later HB.out).get hlt
      obtain ⟨b1, o1, q1, e1, c0, c1⟩ := hgu
      obtain ⟨b2, o2, q2, e2, d0, d1⟩ := hgv
      injection e1 with e1 _ e3
      injection e2 with e2 _ e4
      subst e1
      subst e2
      subst e3
      subst e4
      have HLT := Lib.hid hlt
      generalize A[k] = q at *
      obtain ⟨x, y⟩ := q
      dsimp only at c0 c1 d0 d1
      clear hlt
      go_wp2_with (fail)
      go_quiet (fail)
      go_wp2_with (fail)
      go_roundw
      case rel => exact ⟨k + 1, HLT.out, by go_num, Lib.hid (HB.out.trans ((below_drewN (Below.refl _ _) _).mono HB.out.size))⟩
      case measure => simp [intOf]; omega
    · obtain rfl : k = A.length := by omega
      go_wp2_with (fail)
      go_ret
      exact ⟨rfl, HB.out⟩
/-- One object of a list that came in, in every later world. -/
theorem SrcO.at {w : World} {v : Value} {A : Obs} (h : SrcO w v A) {k : Nat} (hk : k < A.length) : ∃ b o c, v = .slice (some ⟨b, o, none⟩) A.length c ∧ ∀ W, Below w.heap.size w W → W.cell? ⟨b, o + k * 2, none⟩ = some (.int .i64 A[k].1) ∧ W.cell? ⟨b, o + k * 2 + 1, none⟩ = some (.int .i64 A[k].2) := by
  obtain ⟨b, o, c, e, c0, c1⟩ := h.get hk
  exact ⟨b, o, c, e, fun W hW => ⟨by rw [hW.cell (World.block_lt_of_cell? _ _ c0)]; exact c0, by rw [hW.cell (World.block_lt_of_cell? _ _ c1)]; exact c1⟩⟩
/-- A row of numbers. -/
def RowZ (w : World) (g n : Nat) : Prop := ∃ A t, w.heap[g]? = some (.cells A t (0, 0)) ∧ ∀ i, i < n → ∃ z, A[i]? = some (.int .i64 z)
section
variable {w w' : World} {g n : Nat}
theorem RowZ.get (h : RowZ w g n) {i : Nat} (hi : i < n) : ∃ z, w.cell? ⟨g, i, none⟩ = some (.int .i64 z) ∧ w.frozen? ⟨g, i, none⟩ = false := by
  obtain ⟨A, t, hA, hz⟩ := h
  obtain ⟨z, e⟩ := hz i hi
  exact ⟨z, by rw [cell_of_row _ _ _ _ _ _ hA]; exact e, by simp [World.frozen?, hA]⟩
theorem RowZ.set (h : RowZ w g n) (i : Nat) (z : Int) : RowZ (w.setCell ⟨g, i, none⟩ (.int .i64 z)) g n := by
  obtain ⟨A, t, hA, hz⟩ := h
  have hR : RowAt w g n (fun j => .int .i64 (if hj : j < n then Classical.choose (hz j hj) else 0)) := ⟨A, t, hA, fun j hj => by
    dsimp only
    rw [dif_pos hj]
    exact Classical.choose_spec (hz j hj)⟩
  obtain ⟨A2, t2, hA2, hz2⟩ := hR.setCell i (.int .i64 z)
  refine ⟨A2, t2, hA2, fun j hj => ?_⟩
  rw [hz2 j hj]
  unfold updV
  split
  · exact ⟨_, rfl⟩
  · exact ⟨_, rfl⟩
theorem RowZ.block (h : RowZ w g n) (hb : w'.heap[g]? = w.heap[g]?) : RowZ w' g n := by
  obtain ⟨A, t, hA, hz⟩ := h
  exact ⟨A, t, by rw [hb]; exact hA, hz⟩
theorem RowZ.lt (h : RowZ w g n) : g < w.heap.size := by
  obtain ⟨A, t, hA, hz⟩ := h
  exact (Array.getElem?_eq_some_iff.1 hA).1
theorem RowZ.later (h : RowZ w g n) (hb : Below w.heap.size w w') : RowZ w' g n := h.block (hb.block g h.lt)
theorem RowZ.only {S : Nat → Prop} (h : RowZ w g n) (ho : Only S w w') (hs : ¬ S g) : RowZ w' g n := h.block (ho.block g h.lt hs)
/-- A list that may be written over. -/
def OwnN (w : World) (v : Value) (n : Nat) : Prop := ∃ a c, v = .slice a n c ∧ (0 < n → ∃ g, a = some ⟨g, 0, none⟩ ∧ RowZ w g (n * 2))
theorem OwnN.of_owns {base : Nat} {v : Value} {l : Obs} (h : w.ownsRow base TO 2 v l.length (recV encO l)) : OwnN w v l.length := by
  obtain ⟨a, c, e, hh⟩ := owns_slice h
  refine ⟨a, c, e, fun hp => ?_⟩
  obtain ⟨g, rfl, _, _, A, t, hA, hx⟩ := hh hp
  refine ⟨g, rfl, A, t, hA, fun i hi => ?_⟩
  rw [hx i hi]
  obtain ⟨q, hq⟩ : ∃ q, l[i / 2]? = some q := ⟨_, List.getElem?_eq_getElem (by omega)⟩
  rcases (show i = i / 2 * 2 + 0 ∨ i = i / 2 * 2 + 1 by omega) with e | e
  · have h2 := recV_at encO_len l (i / 2) q hq 0 _ rfl
    rw [← e] at h2
    exact ⟨_, h2⟩
  · have h2 := recV_at encO_len l (i / 2) q hq 1 _ rfl
    rw [← e] at h2
    exact ⟨_, h2⟩
theorem OwnN.only {S : Nat → Prop} {v : Value} {k : Nat} (h : OwnN w v k) (ho : Only S w w') (hs : ∀ g, v.ownBlock = some g → ¬ S g) : OwnN w' v k := by
  obtain ⟨a, c, rfl, hh⟩ := h
  exact ⟨a, c, rfl, fun hp => by
    obtain ⟨g, rfl, hr⟩ := hh hp
    exact ⟨g, rfl, hr.only ho (hs g rfl)⟩⟩
theorem OwnN.later {v : Value} {k : Nat} (h : OwnN w v k) (hb : Below w.heap.size w w') : OwnN w' v k := by
  obtain ⟨a, c, e, hh⟩ := h
  exact ⟨a, c, e, fun hp => by
    obtain ⟨g, e2, hr⟩ := hh hp
    exact ⟨g, e2, hr.later hb⟩⟩
end
section
variable {P : Program}
/-- Where the new row lies. -/
theorem append_whrN {w : World} (base : Nat) (t ty e : TypeId) (i : TypeInfo) (z : Value) (size bytes : Nat) (ht : P.underlying t = some (.slice e)) (hi : P.info? e = some i) (hz : i.zero = some z)
    (hsize : i.size = size) (hby : i.bytes = bytes) (v : Value) (n : Nat) (xs : List Value) (hown : w.ownsRow base e size v n xs)
    (a : Addr) (m c : Nat) (hm : 0 < m) (news : List Value) (hl : news.length = m * size) (hnews : ∀ j u, news[j]? = some u → w.cell? (a.add j) = some u) (h1 : ∀ u ∈ news, u.oneCell' = true)
    (h63 : n + m ≤ maxLen) (hb : (n + m) * bytes ≤ 140737488355328) {v' : Value} {w' : World} (hr : (Builtin.append_ #[t, t] ty #[v, .slice (some a) m c]).run P w = .ok v' w') :
    v'.ownBlock = v.ownBlock ∨ ∀ k, v'.ownBlock = some k → w.heap.size ≤ k := by
  subst hsize
  subst hby
  have hmb : m * i.bytes ≤ 281474976710656 := Nat.le_trans (Nat.mul_le_mul_right _ (Nat.le_add_left m n)) (by omega)
  have hml : ((n + m : Nat) : Int) ≤ 9223372036854775807 := by unfold maxLen at h63; omega
  rcases hown.2 with ⟨rfl, rfl⟩ | ⟨g, cap, cur, rfl, hbg, hg, hnc, hcm, hcs, htake⟩
  · have h := run_append_nil (P := P) w t ty e i z ht hi hz a m c news hl hnews hm (by omega) hmb
    rw [h] at hr
    injection hr with hr _
    subst hr
    right
    intro k hk
    simp only [Value.ownBlock, Option.some.injEq] at hk
    omega
  · by_cases hroom : n + m ≤ cap
    · have hfit : n * i.size + news.length ≤ cur.size := by rw [hl, hcs, ← Nat.add_mul]; exact Nat.mul_le_mul_right _ hroom
      have h := run_append_room (P := P) w t ty e i ht hi g n cap cur hg a m c news hl hnews h1 hroom hfit
      rw [h] at hr
      injection hr with hr _
      subst hr
      exact .inl rfl
    · have h := run_append_grow (P := P) w t ty e i z ht hi hz ⟨g, 0, none⟩ n cap xs hown.1 (hown.cells (g := g) rfl) a m c news hl hnews (by omega) hml (growslice_fits (by omega) hb)
      rw [h] at hr
      injection hr with hr _
      subst hr
      right
      intro k hk
      simp only [Value.ownBlock, Option.some.injEq] at hk
      omega
theorem wpList_append_wat (w : World) {ops : Array Oper} {rest : List Oper} {o : Oper} {a : Act} {Q : Exit → Act → World → Prop} (hgd : o.guard = none) (s x : Operand) (t : TypeId)
    (ho : o.op = .call { callee := .builtin .append, args := #[s, x], argTypes := #[t, t] })
    (base : Nat) (e : TypeId) (i : TypeInfo) (z : Value) (size bytes : Nat) (ht : P.underlying t = some (.slice e)) (hi : P.info? e = some i) (hz : i.zero = some z)
    (hsize : i.size = size) (hby : i.bytes = bytes) (hzs : z.cells.size = size) (hsz : 0 < size)
    (v : Value) (n : Nat) (xs : List Value) (hown : w.ownsRow base e size v n xs) (hbase : base ≤ w.heap.size) (hs : a.eval s = v)
    (ad : Addr) (m c : Nat) (hm : 0 < m) (news : List Value) (hx : a.eval x = .slice (some ad) m c) (hl : news.length = m * size) (hsrc : ∀ j u, news[j]? = some u → w.cell? (ad.add j) = some u) (h1 : ∀ u ∈ news, u.oneCell' = true)
    (h63 : n + m ≤ maxLen) (hb : (n + m) * bytes ≤ 140737488355328)
    (h : ∀ v' w', w'.ownsRow base e size v' (n + m) (xs ++ news) → Only (fun k => v.ownBlock = some k) w w' → (v'.ownBlock = v.ownBlock ∨ ∀ k, v'.ownBlock = some k → w.heap.size ≤ k) → wpList P ops Q rest (a.put o.dst v') w') : wpList P ops Q (o :: rest) a w := by
  obtain ⟨v', w', hr, h2, h3, h4⟩ := run_append_own_src (P := P) w base t o.type e i z size bytes ht hi hz hsize hby hzs hsz v n xs hown (some ad) m c news hl (fun _ => ⟨ad, rfl, hsrc⟩) h1 h63 hb hbase
  have hwh := append_whrN (P := P) base t o.type e i z size bytes ht hi hz hsize hby v n xs hown ad m c hm news hl hsrc h1 h63 hb hr
  refine wpList_plain hgd fun _ hK => ?_
  unfold Oper.wp execOp
  simp only [ho, resolve, invoke, builtin, Sem.run_bind, Sem.run_pure, Result.andThen_ok, List.map_toArray, List.map_cons, List.map_nil, hs, hx, hr]
  exact hK _ _ (h v' w' h2 (Only.of_grown h3) hwh)
end
end Go.Proofs.Ytagnipkannogoaa
