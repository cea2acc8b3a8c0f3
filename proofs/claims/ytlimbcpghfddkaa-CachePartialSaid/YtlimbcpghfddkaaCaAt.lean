/-
  cache: the landed one as it lies; may, missing, New, Size, Slab, Give.
-/
import Derived.Test.YtlimbcpghfddkaaCaFam
import Derived.Test.YtlimbcpghfddkaaPMap
import Derived.Test.YtlimbcpghfddkaaCaRefN
namespace Go.Proofs.Ytlimbcpghfddkaa
open Go.RowKit Go

/-- The program's cache: its struct's block, its map's, its slabs. -/
structure KC where
  c : Nat
  m : Nat
  g : Int → SC
def KC.hd (K : KC) (k : Nat) : Prop := k = K.c ∨ k = K.m
def KC.all (K : KC) (L : List Pl) (k : Nat) : Prop := K.hd k ∨ famB SC.all K.g L k
def mapS (g : Int → SC) (L : List Pl) (x : Int) : Option (Option Nat) := (findL L x).map fun _ => some (g x).s
def caV (A : Ca) (m : Nat) (i : Nat) : Value := if i = 0 then .int .i64 A.sz else if i = 1 then .int .i64 A.co else .map (some m)
structure CaAt (w : World) (K : KC) (A : Ca) : Prop where
  row : RowAt w K.c 3 (caV A K.m)
  map : FMap Try.prog 3 elemPtr w K.m (mapS K.g A.L)
  ne : K.c ≠ K.m
  fam : Fam SlAt SC.all w K.hd K.g A.L
  inv : CaI A
  wf : ∀ p ∈ A.L, (Lit.int .i64 p.fr).wf = true
theorem zeroSlab (w : World) : (zeroValue 41).run Try.prog w = .ok (elemPtr.v none) w := by kernel_rfl
section
variable {w W : World} {K K' : KC} {A A' : Ca}
theorem CaAt.only (R : CaAt w K A) {P : Nat → Prop} (ho : Only P w W) (h : ∀ k, K.all A.L k → ¬ P k) : CaAt W K A :=
  ⟨R.row.only ho (h _ (.inl (.inl rfl))), R.map.only ho (h _ (.inl (.inr rfl))), R.ne, R.fam.only famP ho (fun k hk => h k (.inr hk)), R.inv, R.wf⟩
theorem CaAt.later (R : CaAt w K A) (h : Below w.heap.size w W) : CaAt W K A := R.only (Only.of_below (S := fun _ => False) h) (fun _ _ h => h)
theorem CaAt.lt (R : CaAt w K A) : ∀ k, K.all A.L k → k < w.heap.size := by
  rintro k ((h | h) | h)
  · rw [h]
    exact R.row.lt
  · rw [h]
    exact R.map.lt
  · exact R.fam.lt famP k h
theorem CaAt.c0 (R : CaAt w K A) : w.cell? ⟨K.c, 0, none⟩ = some (.int .i64 A.sz) := R.row.cell 0 (by decide)
theorem CaAt.c1 (R : CaAt w K A) : w.cell? ⟨K.c, 1, none⟩ = some (.int .i64 A.co) := R.row.cell 1 (by decide)
theorem CaAt.c2 (R : CaAt w K A) : w.cell? ⟨K.c, 2, none⟩ = some (.map (some K.m)) := R.row.cell 2 (by decide)
/-- It has turned. -/
structure KTurn (w : World) (K : KC) (A : Ca) (B : Nat → Prop) (β : Int → Nat) (K' : KC) (A' : Ca) (w' : World) : Prop where
  at_ : CaAt w' K' A'
  c : K'.c = K.c
  only : Only (fun k => K.all A.L k ∨ B k) w w'
  new : ∀ k, K'.all A'.L k → K.all A.L k ∨ B k ∨ w.heap.size ≤ k
  b : ∀ x, (K'.g x).b = β x
  keep : B = noB → K' = K
  sub : B = noB → ∀ k, K'.all A'.L k → K.all A.L k
theorem KTurn.same (R : CaAt w K A) : KTurn w K A noB (fun x => (K.g x).b) K A w := ⟨R, rfl, Only.refl _ _, fun _ h => .inl h, fun _ => rfl, fun _ => rfl, fun _ _ h => h⟩
theorem KTurn.later {B : Nat → Prop} {β : Int → Nat} (T : KTurn w K A B β K' A' W) {W' : World} (h : Below W.heap.size W W') : KTurn w K A B β K' A' W' :=
  ⟨T.at_.later h, T.c, T.only.trans (Only.of_below h), T.new, T.b, T.keep, T.sub⟩
theorem mapS_set {g : Int → SC} {L : List Pl} (hr : Rise L) (x : Int) (S : Sl) (y : Int) : mapS g L y = mapS g (setL L x S) y := by
  unfold mapS
  rw [findL_set hr]
  split
  · rename_i e
    rw [e]
    cases findL L x <;> rfl
  · rfl
/-- One of its slabs turns. -/
theorem CaAt.turn (R : CaAt w K A) {p : Pl} (hp : p ∈ A.L) {S : Sl} (H : SlAt W (K.g p.fr) S) (ho : Only (K.g p.fr).all w W) (hI : SlI S) (hs : S.sz = p.S.sz) :
    KTurn w K A noB (fun x => (K.g x).b) K (A.turned p.fr S) W := by
  have hsub : ∀ k, K.all (A.turned p.fr S).L k → K.all A.L k := fun k hk => by
    rcases hk with hk | hk
    · exact .inl hk
    · have e := famB_turn (g := K.g) (p := p) (C := K.g p.fr) (S := S) (L := A.L) (all := SC.all) (k := k) (by rw [updI_self]; exact hk)
      rcases e with h | h
      · exact .inr h
      · exact .inr ⟨p, hp, h⟩
  have hoff : ∀ k, K.hd k → ¬ (K.g p.fr).all k := fun k hk hx => R.fam.off p hp k hx hk
  have hfam := R.fam.turn famP hp (S := S) H ho (fun _ h => h) (fun k hk => .inl hk) (fun k hk => R.lt k (.inl hk))
  rw [updI_self] at hfam
  refine ⟨⟨R.row.only ho (hoff _ (.inl rfl)), (R.map.only ho (hoff _ (.inr rfl))).ext (mapS_set R.inv.rise p.fr S), R.ne, hfam, R.inv.turned hI (by rw [hs]; exact R.inv.sz p hp), fun q hq => ?_⟩, rfl, ho.mono (fun k hk => .inl (.inr ⟨p, hp, hk⟩)), fun k hk => .inl (hsub k hk), fun _ => rfl, fun _ => rfl, fun _ => hsub⟩
  · rcases mem_setL hq with ⟨h1, _⟩ | ⟨h1, _⟩
    · exact R.wf q h1
    · rw [h1]
      exact R.wf p hp
set_option maxRecDepth 100000 in
set_option maxHeartbeats 2000000 in
theorem kmissing_any (R : CaAt w K A) : Calls Try.prog 36 #[.pointer (some ⟨K.c, 0, none⟩)] w fun e w' => e = .returned (.bool false) ∧ w = w' := by
  have c0 := R.c0
  have hz : ((A.sz : Int) == 0) = false := by
    have := may_parts R.inv.may
    rw [beq_eq_false_iff_ne]
    omega
  clear R
  generalize A.sz = sz at *
  go_enter Try.func36, Try.ntmps36
  go_wp2_with (fail)
  go_ret
  exact ⟨rfl, rfl⟩
set_option maxRecDepth 100000 in
set_option maxHeartbeats 2000000 in
theorem ksize_any (R : CaAt w K A) : Calls Try.prog 33 #[.pointer (some ⟨K.c, 0, none⟩)] w fun e w' => e = .returned (.int .i64 A.sz) ∧ w = w' := by
  have c0 := R.c0
  clear R
  generalize A.sz = sz at *
  go_enter Try.func33, Try.ntmps33
  go_wp2_with (fail)
  go_ret
  exact ⟨rfl, rfl⟩
theorem look_S (g : Int → SC) (L : List Pl) (x : Int) : elemPtr.v ((mapS g L x).getD none) = ptrF (findL L x) (g x).s := by
  unfold mapS
  cases findL L x <;> rfl
def KSlab (w : World) (K : KC) (A : Ca) (x : Int) (e : Ending) (w' : World) : Prop :=
  e = .returned (.tuple #[ptrF (findL A.L x) (K.g x).s, .int .i64 (match findL A.L x with | none => 7 | some _ => 0)]) ∧ w = w'
set_option maxRecDepth 100000 in
set_option maxHeartbeats 2000000 in
theorem kslab_any (R : CaAt w K A) (x : Int) (hx : (Lit.int .i64 x).wf = true) : Calls Try.prog 21 #[.pointer (some ⟨K.c, 0, none⟩), .int .i64 x] w (KSlab w K A x) := by
  have c2 := R.c2
  have HM := Lib.hid (kmissing_any R)
  have hT := R.map
  have HL := Lib.hid (look_S K.g A.L x)
  unfold KSlab
  clear R
  cases hf : findL A.L x with
  | none =>
    rw [hf] at HL
    unfold ptrF at HL ⊢
    have HLO := Lib.hid HL.out
    clear hf HL
    go_enter Try.func21, Try.ntmps21
    go_wp2_with (fail)
    refine HM.out.mono ?_
    rintro e w1 ⟨rfl, rfl⟩
    go_wp2_with (first | (at_lookup; (refine wpList_look1_fmap rfl _ _ _ rfl 3 41 Try.underlying3 Try.underlying57 elemPtr none trivial (zeroSlab _) K.m (mapS K.g A.L) rfl hT x rfl hx ?_); rw [HLO.out]) | fail)
    go_ret2
    exact ⟨rfl, rfl⟩
  | some S =>
    rw [hf] at HL
    unfold ptrF at HL ⊢
    have HLO := Lib.hid HL.out
    clear hf HL
    go_enter Try.func21, Try.ntmps21
    go_wp2_with (fail)
    refine HM.out.mono ?_
    rintro e w1 ⟨rfl, rfl⟩
    go_wp2_with (first | (at_lookup; (refine wpList_look1_fmap rfl _ _ _ rfl 3 41 Try.underlying3 Try.underlying57 elemPtr none trivial (zeroSlab _) K.m (mapS K.g A.L) rfl hT x rfl hx ?_); rw [HLO.out]) | fail)
    go_ret2
    exact ⟨rfl, rfl⟩
def KPost1 (w : World) (K : KC) (A : Ca) (q : Int × Ca) (e : Ending) (w' : World) : Prop :=
  e = .returned (.int .i64 q.1) ∧ ∃ K', KTurn w K A noB (fun x => (K.g x).b) K' q.2 w'
set_option maxRecDepth 100000 in
set_option maxHeartbeats 2000000 in
theorem kgive_any (R : CaAt w K A) (x i : Int) (hx : (Lit.int .i64 x).wf = true) : Calls Try.prog 17 #[.pointer (some ⟨K.c, 0, none⟩), .int .i64 x, .int .i64 i] w (KPost1 w K A (A.give x i)) := by
  have HS := Lib.hid (kslab_any R x hx)
  unfold KSlab at HS
  cases hf : findL A.L x with
  | none =>
    have hz : A.give x i = (7, A) := by unfold Ca.give; rw [hf]
    rw [hz]
    have HP := Lib.hid (show KPost1 w K A (7, A) (.returned (.int .i64 7)) w from ⟨rfl, K, KTurn.same R⟩)
    rw [hf] at HS
    unfold ptrF at HS
    clear R hz hf
    go_enter Try.func17, Try.ntmps17
    go_wp2_with (fail)
    refine HS.out.mono ?_
    rintro e w1 ⟨rfl, rfl⟩
    go_wp2_with (fail)
    go_ret
    exact HP.out
  | some S =>
    have hz : A.give x i = ((S.give i).1, A.turned x (S.give i).2) := by unfold Ca.give; rw [hf]
    rw [hz]
    rw [hf] at HS
    unfold ptrF at HS
    have hp := findL_mem hf
    have hS := R.fam.at_ _ hp
    have hI := R.inv.inv _ hp
    have HG := Lib.hid (chain_ok.give (w := w) (C := K.g x) (S := S) i hS)
    have HT := Lib.hid (fun (w' : World) (h : SlAt w' (K.g x) (S.give i).2) (h3 : Only (K.g x).all w w') =>
      show KPost1 w K A ((S.give i).1, A.turned x (S.give i).2) (.returned (.int .i64 (S.give i).1)) w' from ⟨rfl, _, R.turn hp h h3 (hI.give i) (give_sz S i)⟩)
    clear R hz hp hS hI hf
    go_enter Try.func17, Try.ntmps17
    go_wp2_with (fail)
    refine HS.out.mono ?_
    rintro e w1 ⟨rfl, rfl⟩
    go_wp2_with (fail)
    refine HG.out.mono ?_
    rintro e w2 ⟨rfl, h1, h3⟩
    have HP := Lib.hid (HT.out w2 h1 h3)
    clear h1 h3
    go_wp2_with (fail)
    go_ret
    exact HP.out
end
end Go.Proofs.Ytlimbcpghfddkaa
