/-
  cache's document: how it lies; Find, Give.
-/
import Derived.Test.YtlimbcpghfddkaaCaFam
import Derived.Test.YtlimbcpghfddkaaRec
import Derived.BigQuiet
namespace Go.Proofs.Ytlimbcpghfddkaa
open Go.RowKit Go

def encP (p : Int × Nat) : List Value := [.int .i64 p.1, .pointer (some ⟨p.2, 0, none⟩)]
theorem encP_len : ∀ p, (encP p).length = 2 := fun _ => rfl
theorem encP_one : ∀ p, ∀ u ∈ encP p, u.oneCell' = true := fun p u h => by
  simp [encP] at h
  rcases h with rfl | rfl <;> rfl
/-- The document's cache: its struct's block, its list, its slabs. -/
structure DC where
  d : Nat
  a : Option Addr
  c : Nat
  g : Int → SD
def DC.hd (D : DC) (k : Nat) : Prop := k = D.d ∨ D.a = some ⟨k, 0, none⟩
def DC.all (D : DC) (L : List Pl) (k : Nat) : Prop := D.hd k ∨ famB SD.all D.g L k
def plsR (g : Int → SD) (L : List Pl) : List (Int × Nat) := L.map fun p => (p.fr, (g p.fr).r)
def daV (A : Ca) (a : Option Addr) (c : Nat) (i : Nat) : Value := if i = 0 then .int .i64 A.sz else if i = 1 then .int .i64 A.co else .slice a A.L.length c
structure DAt (w : World) (D : DC) (A : Ca) : Prop where
  row : RowAt w D.d 3 (daV A D.a D.c)
  lst : RecsAt w 0 D.a encP 2 (plsR D.g A.L)
  cap : A.L.length ≤ D.c
  alt : ∀ k, D.a = some ⟨k, 0, none⟩ → k < w.heap.size
  ne : D.a ≠ some ⟨D.d, 0, none⟩
  fam : Fam DsAt SD.all w D.hd D.g A.L
  inv : CaI A
section
variable {w W : World} {D D' : DC} {A A' : Ca}
theorem DAt.only (R : DAt w D A) {P : Nat → Prop} (ho : Only P w W) (h : ∀ k, D.all A.L k → ¬ P k) : DAt W D A :=
  ⟨R.row.only ho (h _ (.inl (.inl rfl))), R.lst.only ho (fun k hk => h k (.inl (.inr hk))), R.cap, fun k hk => Nat.lt_of_lt_of_le (R.alt k hk) ho.size, R.ne, R.fam.only famD ho (fun k hk => h k (.inr hk)), R.inv⟩
theorem DAt.later (R : DAt w D A) (h : Below w.heap.size w W) : DAt W D A := R.only (Only.of_below (S := fun _ => False) h) (fun _ _ h => h)
theorem DAt.lt (R : DAt w D A) : ∀ k, D.all A.L k → k < w.heap.size := by
  rintro k ((h | h) | h)
  · rw [h]
    exact R.row.lt
  · exact R.alt k h
  · exact R.fam.lt famD k h
theorem DAt.c0 (R : DAt w D A) : w.cell? ⟨D.d, 0, none⟩ = some (.int .i64 A.sz) := R.row.cell 0 (by decide)
theorem DAt.c1 (R : DAt w D A) : w.cell? ⟨D.d, 1, none⟩ = some (.int .i64 A.co) := R.row.cell 1 (by decide)
theorem DAt.c2 (R : DAt w D A) : w.cell? ⟨D.d, 2, none⟩ = some (.slice D.a A.L.length D.c) := R.row.cell 2 (by decide)
/-- One place of it. -/
theorem DAt.place (R : DAt w D A) {k : Nat} (hk : k < A.L.length) : ∃ b, D.a = some ⟨b, 0, none⟩ ∧ w.cell? ⟨b, k * 2, none⟩ = some (.int .i64 A.L[k].fr) ∧ w.cell? ⟨b, k * 2 + 1, none⟩ = some (.pointer (some ⟨(D.g A.L[k].fr).r, 0, none⟩)) ∧ DsAt w (D.g A.L[k].fr) A.L[k].S ∧ SlI A.L[k].S := by
  obtain ⟨b, e, _, _, h⟩ := R.lst.get encP_len k (by unfold plsR; rw [List.length_map]; exact hk)
  have hm := List.getElem_mem hk
  have e2 : (plsR D.g A.L)[k]'(by unfold plsR; rw [List.length_map]; exact hk) = (A.L[k].fr, (D.g A.L[k].fr).r) := by
    unfold plsR
    rw [List.getElem_map]
  rw [e2] at h
  exact ⟨b, e, h 0 _ rfl, h 1 _ rfl, R.fam.at_ _ hm, R.inv.inv _ hm⟩
/-- It has turned. -/
structure DTurn (w : World) (D : DC) (A : Ca) (B : Nat → Prop) (β : Int → Nat) (D' : DC) (A' : Ca) (w' : World) : Prop where
  at_ : DAt w' D' A'
  d : D'.d = D.d
  only : Only (fun k => D.all A.L k ∨ B k) w w'
  new : ∀ k, D'.all A'.L k → D.all A.L k ∨ B k ∨ w.heap.size ≤ k
  b : ∀ x, (D'.g x).b = β x
def noB (_ : Nat) : Prop := False
theorem DTurn.same (R : DAt w D A) : DTurn w D A noB (fun x => (D.g x).b) D A w := ⟨R, rfl, Only.refl _ _, fun _ h => .inl h, fun _ => rfl⟩
theorem DTurn.later (T : DTurn w D A noB (fun x => (D.g x).b) D' A' W) {W' : World} (h : Below W.heap.size W W') : DTurn w D A noB (fun x => (D.g x).b) D' A' W' :=
  ⟨T.at_.later h, T.d, T.only.trans (Only.of_below h), T.new, T.b⟩
/-- One of its slabs turns. -/
theorem DAt.turn (R : DAt w D A) {p : Pl} (hp : p ∈ A.L) {C : SD} {S : Sl} (H : DsAt W C S) (hr : C.r = (D.g p.fr).r) (hb : C.b = (D.g p.fr).b) (ho : Only (fun k => k = (D.g p.fr).r ∨ k = (D.g p.fr).b) w W) (hn : ∀ k, inC C.v k → inC (D.g p.fr).v k ∨ w.heap.size ≤ k) (hI : SlI S) (hs : S.sz = p.S.sz) :
    DTurn w D A noB (fun x => (D.g x).b) ⟨D.d, D.a, D.c, updI D.g p.fr C⟩ (A.turned p.fr S) W := by
  have hP : ∀ k, (k = (D.g p.fr).r ∨ k = (D.g p.fr).b) → (D.g p.fr).all k := fun k hk => hk.elim .inl (fun h => .inr (.inl h))
  have hall : ∀ k, C.all k → (D.g p.fr).all k ∨ w.heap.size ≤ k := by
    rintro k (h | h | h)
    · exact .inl (.inl (by rw [h, hr]))
    · exact .inl (.inr (.inl (by rw [h, hb])))
    · exact (hn k h).elim (fun h => .inl (.inr (.inr h))) .inr
  have hoff : ∀ k, D.hd k → ¬ (k = (D.g p.fr).r ∨ k = (D.g p.fr).b) := fun k hk hx => R.fam.off p hp k (hP k hx) hk
  have hlen := setL_len A.L p.fr S
  have hfam : Fam DsAt SD.all W D.hd (updI D.g p.fr C) (setL A.L p.fr S) := R.fam.turn famD hp H ho hP hall (fun k hk => R.lt k (.inl hk))
  refine ⟨⟨(R.row.only ho (hoff _ (.inl rfl))).ext (fun i _ => ?_), ?_, by show (setL A.L p.fr S).length ≤ D.c; rw [hlen]; exact R.cap, fun k hk => Nat.lt_of_lt_of_le (R.alt k hk) ho.size, R.ne, hfam, R.inv.turned hI (by rw [hs]; exact R.inv.sz p hp)⟩, rfl, ho.mono (fun k hk => .inl (.inr ⟨p, hp, hP k hk⟩)), fun k hk => ?_, fun x => ?_⟩
  · unfold daV
    show _ = if i = 0 then Value.int .i64 A.sz else if i = 1 then .int .i64 A.co else .slice D.a (setL A.L p.fr S).length D.c
    rw [hlen]
  · have e : plsR (updI D.g p.fr C) (setL A.L p.fr S) = plsR D.g A.L := by
      unfold plsR setL
      rw [List.map_map]
      refine List.map_congr_left fun q _ => ?_
      show ((if q.fr = p.fr then (⟨q.fr, S⟩ : Pl) else q).fr, (updI D.g p.fr C (if q.fr = p.fr then (⟨q.fr, S⟩ : Pl) else q).fr).r) = _
      by_cases e : q.fr = p.fr
      · rw [if_pos e]
        show (q.fr, (updI D.g p.fr C q.fr).r) = _
        rw [e, updI_same, hr]
      · rw [if_neg e, updI_other D.g e]
    show RecsAt W 0 D.a encP 2 (plsR (updI D.g p.fr C) (setL A.L p.fr S))
    rw [e]
    exact R.lst.only ho (fun k hk => hoff k (.inr hk))
  · rcases hk with hk | hk
    · exact .inl (.inl hk)
    · rcases famB_turn hk with h | h
      · exact .inl (.inr h)
      · exact (hall k h).elim (fun h => .inl (.inr ⟨p, hp, h⟩)) (fun h => .inr (.inr h))
  · show (updI D.g p.fr C x).b = (D.g x).b
    by_cases e : x = p.fr
    · rw [e, updI_same, hb]
    · rw [updI_other D.g e]
def ptrF (o : Option Sl) (r : Nat) : Value := match o with
  | none => .pointer none
  | some _ => .pointer (some ⟨r, 0, none⟩)
set_option maxRecDepth 100000 in
set_option maxHeartbeats 2000000 in
theorem dfind_any (R : DAt w D A) (hl : A.L.length ≤ 1000) (x : Int) :
    Calls Try.prog 22 #[.pointer (some ⟨D.d, 0, none⟩), .int .i64 x] w fun e w' => e = .returned (ptrF (findL A.L x) (D.g x).r) ∧ w = w' := by
  have c2 := R.c2
  have HR := Lib.hid R
  clear R
  go_enter Try.func22, Try.ntmps22
  go_wp2_with (fail)
  go_loop [5] (fun i => ∃ k : Nat, k ≤ A.L.length ∧ i = .int .i64 k ∧ ∀ j (h : j < A.L.length), j < k → A.L[j].fr ≠ x) (fun i => A.L.length - (intOf i).toNat)
  case atStart => exact ⟨0, Nat.zero_le _, rfl, fun j _ h => absurd h (Nat.not_lt_zero _)⟩
  case round =>
    obtain ⟨k, hk, rfl, hn⟩ := hrel
    have HN := Lib.hid hn
    clear hn
    by_cases hlt : k < A.L.length
    · obtain ⟨b, ha, k0, k1, _, _⟩ := HR.out.place hlt
      have hltI : (k : Int) < (A.L.length : Int) := by omega
      rw [ha] at c2
      have HF := Lib.hid (findL_at HR.out.inv.rise hlt)
      generalize hq : A.L[k] = q at *
      by_cases hx : q.fr = x
      · rw [hx] at k0 k1 HF
        clear hx ha
        go_wp2_with (fail)
        go_ret
        exact ⟨by rw [HF.out]; rfl, rfl⟩
      · have HM := Lib.hid (show ∀ j (h : j < A.L.length), j < k + 1 → A.L[j].fr ≠ x from fun j h hj => by
          by_cases e : j < k
          · exact HN.out j h e
          · obtain rfl : j = k := by omega
            intro e2
            exact hx (by rw [← hq]; exact e2))
        have hx2 : (q.fr == x) = false := by simpa using hx
        clear hx ha hq
        go_wp2_with (fail)
        go_round
        case rel => exact ⟨k + 1, hlt, by go_num, HM.out⟩
        case measure => simp [intOf]; omega
    · obtain rfl : k = A.L.length := by omega
      have e : findL A.L x = none := findL_no fun p hp => by
        obtain ⟨j, hj, rfl⟩ := List.mem_iff_getElem.1 hp
        exact HN.out j hj hj
      have HE := Lib.hid e
      clear e
      go_wp2_with (fail)
      go_ret
      exact ⟨by rw [HE.out]; rfl, rfl⟩
def DPost1 (w : World) (D : DC) (A : Ca) (q : Int × Ca) (e : Ending) (w' : World) : Prop :=
  e = .returned (.int .i64 q.1) ∧ ∃ D', DTurn w D A noB (fun x => (D.g x).b) D' q.2 w'
set_option maxRecDepth 100000 in
set_option maxHeartbeats 2000000 in
theorem dgive_any (R : DAt w D A) (hl : A.L.length ≤ 1000) (x i : Int) :
    Calls Try.prog 18 #[.pointer (some ⟨D.d, 0, none⟩), .int .i64 x, .int .i64 i] w (DPost1 w D A (A.give x i)) := by
  have HF := Lib.hid (dfind_any R hl x)
  cases hf : findL A.L x with
  | none =>
    have hz : A.give x i = (7, A) := by unfold Ca.give; rw [hf]
    rw [hz]
    have HP := Lib.hid (show DPost1 w D A (7, A) (.returned (.int .i64 7)) w from ⟨rfl, D, DTurn.same R⟩)
    rw [hf] at HF
    clear R hz
    go_enter Try.func18, Try.ntmps18
    go_wp2_with (fail)
    refine HF.out.mono ?_
    rintro e w1 ⟨rfl, rfl⟩
    unfold ptrF
    go_wp2_with (fail)
    go_ret
    exact HP.out
  | some S =>
    have hz : A.give x i = ((S.give i).1, A.turned x (S.give i).2) := by unfold Ca.give; rw [hf]
    rw [hz]
    rw [hf] at HF
    have hp := findL_mem hf
    have hS := R.fam.at_ _ hp
    have hI := R.inv.inv _ hp
    have HG := Lib.hid (rgiveB_any (C := fun k => inC (D.g x).v k ∨ w.heap.size ≤ k) hS hI i (fun _ h => .inl h) (fun _ h => .inr h))
    have HT := Lib.hid (fun (w' : World) (v' : Value) (h : CRef w' (D.g x).r (D.g x).b (D.g x).bc (S.give i).2 v') (h2 : ∀ k, inC v' k → inC (D.g x).v k ∨ w.heap.size ≤ k) (h3 : Only (fun k => k = (D.g x).r ∨ k = (D.g x).b) w w') =>
      show DPost1 w D A ((S.give i).1, A.turned x (S.give i).2) (.returned (.int .i64 (S.give i).1)) w' from ⟨rfl, _, R.turn hp (C := ⟨(D.g x).r, (D.g x).b, (D.g x).bc, v'⟩) h rfl rfl h3 h2 (hI.give i) (give_sz S i)⟩)
    clear R hz hp hS hI hf
    go_enter Try.func18, Try.ntmps18
    go_wp2_with (fail)
    refine HF.out.mono ?_
    rintro e w1 ⟨rfl, rfl⟩
    unfold ptrF
    go_wp2_with (fail)
    refine HG.out.mono ?_
    rintro e w2 ⟨rfl, ⟨v', h1, h2⟩, h3⟩
    have HP := Lib.hid (HT.out w2 v' h1 h2 h3)
    clear h1 h2 h3
    go_wp2_with (fail)
    go_ret
    exact HP.out
end
end Go.Proofs.Ytlimbcpghfddkaa
