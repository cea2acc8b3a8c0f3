/-
  clock: the landed clock as it lies: two cells (its ring, its map of states); missing, Len, Has.
-/
import Derived.Test.YtndddfkebbeemaaCkP
import Derived.Test.YtndddfkebbeemaaWin
import Derived.Test.YtndddfkebbeemaaLexM
import Derived.Test.YtndddfkebbeemaaClOk
import Derived.Test.YtndddfkebbeemaaKit
import Derived.BigQuiet
namespace Go.Proofs.Ytndddfkebbeemaa
open Go.RowKit Go.Shelf Go Go.Maps
attribute [local go_sem] Oper.semAt_some

abbrev TMp : TypeId := 46
abbrev TSt : TypeId := 53
abbrev stV (c : Bool × Bool) : Value := .agg #[.bool c.1, .bool c.2]
/-- How a state reads. -/
def stElem : Value → Option (MDat × List MemPlace)
  | .agg ⟨[.bool a, .bool t]⟩ => some (.agg [.lit (.bool a), .lit (.bool t)], [])
  | _ => none
theorem stElem_inv {u : Value} {c : Bool × Bool} {ps : List MemPlace} (h : stElem u = some (.agg [.lit (.bool c.1), .lit (.bool c.2)], ps)) : u = stV c := by
  unfold stElem at h
  split at h
  · obtain ⟨a, t⟩ := c
    simp only [Option.some.injEq, Prod.mk.injEq, DataW.agg.injEq, List.cons.injEq, DataW.lit.injEq, Lit.bool.injEq] at h
    obtain ⟨⟨h1, h2, _⟩, _⟩ := h
    subst h1; subst h2
    rfl
  · cases h
def ES : Elem stElem (Bool × Bool) := ⟨fun c => .agg [.lit (.bool c.1), .lit (.bool c.2)], fun c => stV c, fun _ => True, fun _ _ => ⟨[], rfl⟩, fun _ _ _ h => stElem_inv h⟩
def KI : KeyE Try.prog 3 Int := ⟨fun x => .int .i64 x, fun x => (Lit.int .i64 x).wf = true, fun x => .int .i64 x, int_keyed Try.underlying3, fun _ hx => keyOf_int_mk Try.underlying3 hx, fun x y h => by injection h⟩
abbrev MpAt (w : World) (mb : Nat) (f : Int → Option (Bool × Bool)) : Prop := LMap Try.prog 3 KI ES w mb f
theorem wf_inz {x : Int} (h : InZ x) : (Lit.int .i64 x).wf = true := by
  simp only [Lit.wf, Bool.and_eq_true, decide_eq_true_eq]
  exact ⟨h.1, h.2⟩
theorem zeroSt (w : World) : (zeroValue 53).run Try.prog w = .ok (stV (false, false)) w := by kernel_rfl
theorem map_not (b : Nat) (W : World) : (binOp .eql 46 (.map (some b)) (.map none)).run Try.prog W = .ok (.bool false) W := by kernel_rfl
theorem map_nil (W : World) : (binOp .eql 46 (.map none) (.map none)).run Try.prog W = .ok (.bool true) W := by kernel_rfl
def ckV (v : Value) (mo : Option Nat) (i : Nat) : Value := if i = 0 then v else .map mo
/-- The clock lies at p: its ring v, its map mo (none: a zero one). -/
structure CkAt (w : World) (p : Nat) (v : Value) (mo : Option Nat) (L : List Fr) : Prop where
  row : RowAt w p 2 (ckV v mo)
  win : WinAt w v (namesL L)
  mp : ∀ mb, mo = some mb → MpAt w mb (stM L)
  no : mo = none → L = []
  pv : v.ownBlock ≠ some p
  pm : mo ≠ some p
  vm : ∀ mb, mo = some mb → v.ownBlock ≠ some mb
section
variable {w w' : World} {p : Nat} {m : Bool} {v : Value} {mo : Option Nat} {L : List Fr}
def CkAt.has (p : Nat) (v : Value) (mo : Option Nat) (k : Nat) : Prop := k = p ∨ v.ownBlock = some k ∨ mo = some k
theorem CkAt.lt (h : CkAt w p v mo L) {k : Nat} (hk : CkAt.has p v mo k) : k < w.heap.size := by
  rcases hk with rfl | hk | hk
  · exact h.row.lt
  · exact h.win.lt hk
  · exact (h.mp k hk).lt
theorem CkAt.block (h : CkAt w p v mo L) (hw : ∀ k, CkAt.has p v mo k → w'.heap[k]? = w.heap[k]?) : CkAt w' p v mo L :=
  ⟨h.row.block (hw p (.inl rfl)), h.win.block2 (fun k hk => hw k (.inr (.inl hk))), fun mb e => (h.mp mb e).block (hw mb (.inr (.inr e))), h.no, h.pv, h.pm, h.vm⟩
theorem CkAt.only {S : Nat → Prop} (h : CkAt w p v mo L) (ho : Only S w w') (hs : ∀ k, CkAt.has p v mo k → ¬ S k) : CkAt w' p v mo L :=
  h.block fun k hk => ho.block k (h.lt hk) (hs k hk)
theorem CkAt.later (h : CkAt w p v mo L) (hb : Below w.heap.size w w') : CkAt w' p v mo L := h.only (Only.of_below (S := fun _ => False) hb) (fun _ _ h => h)
theorem CkAt.c0 (h : CkAt w p v mo L) : w.cell? ⟨p, 0, none⟩ = some v := h.row.cell 0 (by decide)
theorem CkAt.c1 (h : CkAt w p v mo L) : w.cell? ⟨p, 1, none⟩ = some (.map mo) := h.row.cell 1 (by decide)
/-- As a thing. -/
def thC (p : Nat) (v : Value) (mo : Option Nat) (L : List Fr) : Thg := ⟨fun w => CkAt w p v mo L, CkAt.has p v mo, fun _ _ _ h ho hs => h.only ho hs, fun _ h _ hk => h.lt hk⟩
def IsCk (X : Thg) (d : Nat) (L : List Fr) : Prop := (∃ v mb, X = thC d v (some mb) L) ∧ ClI L
/-- A clock that is there or not. -/
def CkMay (w : World) (d : Option Nat) (m : Bool) (L : List Fr) : Prop := match d with
  | none => m = false ∧ L = []
  | some p => ∃ v mo, CkAt w p v mo L ∧ mo.isSome = m
theorem CkMay.later {d : Option Nat} (h : CkMay w d m L) (hb : Below w.heap.size w w') : CkMay w' d m L := by
  cases d with
  | none => exact h
  | some p =>
    obtain ⟨v, mo, h, e⟩ := h
    exact ⟨v, mo, h.later hb, e⟩
/-- What the map answers. -/
theorem CkAt.look (h : CkAt w p v mo L) {x : Int} (hx : InZ x) : (Instr.lookup 46 (.map mo) (.int .i64 x) true).run Try.prog w = .ok (.tuple #[stV ((stM L x).getD (false, false)), .bool (hasL L x)]) w := by
  cases mo with
  | none =>
    have hL := h.no rfl
    subst hL
    rw [show hasL [] x = false by simp [hasL, namesL]]
    exact Maps.look_nil true (int_keyed Try.underlying3) Try.underlying46 (zeroSt w) (keyOf_int_mk Try.underlying3 (wf_inz hx))
  | some mb =>
    rw [← stM_has]
    exact (h.mp mb rfl).look (KE := KI) (E := ES) Try.underlying46 (false, false) trivial (zeroSt w) (wf_inz hx)
theorem CkAt.look1 (h : CkAt w p v mo L) {x : Int} (hx : InZ x) : (Instr.lookup 46 (.map mo) (.int .i64 x) false).run Try.prog w = .ok (stV ((stM L x).getD (false, false))) w := by
  cases mo with
  | none =>
    have hL := h.no rfl
    subst hL
    exact Maps.look_nil false (int_keyed Try.underlying3) Try.underlying46 (zeroSt w) (keyOf_int_mk Try.underlying3 (wf_inz hx))
  | some mb => exact (h.mp mb rfl).look1 (KE := KI) (E := ES) Try.underlying46 (false, false) trivial (zeroSt w) (wf_inz hx)
set_option maxRecDepth 100000 in
theorem missing_ck {d : Option Nat} (h : CkMay w d m L) : Calls Try.prog 25 #[.pointer (d.map fun d => ⟨d, 0, none⟩)] w fun e w' => e = .returned (.bool (!m)) ∧ w = w' := by
  cases d with
  | none =>
    obtain ⟨rfl, rfl⟩ := h
    go_enter Try.func25, Try.ntmps25
    go_wp2_with (fail)
    go_ret
    exact ⟨rfl, rfl⟩
  | some p =>
    obtain ⟨v, mo, h, rfl⟩ := h
    have c1 := h.c1
    clear h
    cases mo with
    | none =>
      have hm := map_nil
      go_enter Try.func25, Try.ntmps25
      go_wp2_with (fail)
      go_ret
      exact ⟨rfl, rfl⟩
    | some mb =>
      have hm := map_not mb
      go_enter Try.func25, Try.ntmps25
      go_wp2_with (fail)
      go_ret
      exact ⟨rfl, rfl⟩
set_option maxRecDepth 100000 in
theorem len_ck {d : Option Nat} (h : CkMay w d m L) : Calls Try.prog 21 #[.pointer (d.map fun d => ⟨d, 0, none⟩)] w fun e w' => e = .returned (.int .i64 L.length) ∧ w = w' := by
  cases d with
  | none =>
    obtain ⟨rfl, rfl⟩ := h
    go_enter Try.func21, Try.ntmps21
    go_wp2_with (fail)
    go_ret
    exact ⟨rfl, rfl⟩
  | some p =>
    obtain ⟨v, mo, h, rfl⟩ := h
    have c0 := h.c0
    obtain ⟨a, c, hv⟩ := h.win.slice
    rw [namesL_len] at hv
    subst hv
    clear h
    go_enter Try.func21, Try.ntmps21
    go_wp2_with (fail)
    go_ret
    exact ⟨rfl, rfl⟩
set_option maxRecDepth 100000 in
set_option maxHeartbeats 2000000 in
theorem has_ck {d : Option Nat} (h : CkMay w d m L) {x : Int} (hx : InZ x) : Calls Try.prog 22 #[.pointer (d.map fun d => ⟨d, 0, none⟩), .int .i64 x] w fun e w' => e = .returned (.bool (hasL L x)) ∧ Below w.heap.size w w' := by
  cases d with
  | none =>
    obtain ⟨rfl, rfl⟩ := h
    rw [show hasL [] x = false by simp [hasL, namesL]]
    go_enter Try.func22, Try.ntmps22
    go_wp2_with (fail)
    go_ret
    exact ⟨rfl, Below.refl _ _⟩
  | some p =>
    obtain ⟨v, mo, h, rfl⟩ := h
    have c1 := h.c1
    obtain ⟨⟨a, t⟩, hat⟩ : ∃ c, (stM L x).getD (false, false) = c := ⟨_, rfl⟩
    have HLK := Lib.hid (h.look hx)
    rw [hat] at HLK
    clear h
    generalize hasL L x = B at *
    have HB := Lib.hid ((Below.refl w.heap.size w).alloc (Nat.le_refl _) (.cells #[.bool a, .bool t] 53))
    go_enter Try.func22, Try.ntmps22
    go_wp2_with (first | (refine wpList_lookM rfl _ _ _ _ rfl rfl rfl HLK.out ?_) | fail)
    go_ret
    exact ⟨rfl, HB.out⟩
end
end Go.Proofs.Ytndddfkebbeemaa
