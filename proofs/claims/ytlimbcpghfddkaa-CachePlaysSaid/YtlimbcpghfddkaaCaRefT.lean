/-
  cache's document: Take.
-/
import Derived.Test.YtlimbcpghfddkaaCaRefN
namespace Go.Proofs.Ytlimbcpghfddkaa
open Go.RowKit Go

section
variable {l : List Pl}
theorem pick_at {k : Nat} (hk : k < l.length) (h : l[k].prt = true) (hn : ∀ j (hj : j < l.length), j < k → l[j].prt = false) : pickL l = some l[k] := by
  have e : l.find? Pl.prt = some l[k] := List.find?_eq_some_iff_getElem.2 ⟨h, k, hk, rfl, fun j hj => by rw [hn j (by omega) hj]; rfl⟩
  unfold pickL
  rw [e]
  rfl
theorem find_none {f : Pl → Bool} (hn : ∀ p ∈ l, f p = false) : l.find? f = none := List.find?_eq_none.2 fun p hp => by rw [hn p hp]; decide
theorem pick_at2 (hI : ∀ p ∈ l, SlI p.S) (h0 : ∀ p ∈ l, p.prt = false) {k : Nat} (hk : k < l.length) (h : 0 < l[k].S.ch.length) (hn : ∀ j (hj : j < l.length), j < k → l[j].S.ch.length = 0) : pickL l = some l[k] := by
  have h1 := h0 _ (List.getElem_mem hk)
  have he : l[k].emp = true := by
    unfold Pl.prt at h1
    unfold Pl.emp
    rw [decide_eq_true h, Bool.true_and] at h1
    simpa using h1
  have e : l.find? Pl.emp = some l[k] := List.find?_eq_some_iff_getElem.2 ⟨he, k, hk, rfl, fun j hj => by
    have h2 := hn j (by omega) hj
    have h3 := (hI _ (List.getElem_mem (show j < l.length by omega))).parts.2.2.2.2
    unfold Pl.emp
    rw [decide_eq_false (by omega)]
    rfl⟩
  unfold pickL
  rw [find_none h0, e]
  rfl
theorem pick_none (hI : ∀ p ∈ l, SlI p.S) (hn : ∀ p ∈ l, p.S.ch.length = 0) : pickL l = none := by
  unfold pickL
  rw [find_none (fun p hp => by unfold Pl.prt; rw [decide_eq_false (by have := hn p hp; omega)]; rfl), find_none (fun p hp => by
    have h3 := (hI p hp).parts.2.2.2.2
    have := hn p hp
    unfold Pl.emp
    exact decide_eq_false (by omega))]
  rfl
end
section
variable {w W : World} {D D' : DC} {A A' : Ca}
def DPost3 (w : World) (D : DC) (A : Ca) (q : Int × Int × Int × Ca) (e : Ending) (w' : World) : Prop :=
  e = .returned (.tuple #[.int .i64 q.1, .int .i64 q.2.1, .int .i64 q.2.2.1]) ∧ ∃ D', DTurn w D A noB (fun x => (D.g x).b) D' q.2.2.2 w'
/-- What the call at place k comes to. -/
def DTakeAt (w : World) (D : DC) (A : Ca) (k : Nat) (hk : k < A.L.length) (b : Nat) : Prop :=
  Calls Try.prog 44 #[.pointer (some ⟨(D.g A.L[k].fr).r, 0, none⟩)] w fun e w' => e = .returned (.tuple #[.int .i64 A.L[k].S.take.1, .int .i64 0]) ∧ w'.cell? ⟨D.d, 2, none⟩ = some (.slice (some ⟨b, 0, none⟩) A.L.length D.c) ∧ w'.cell? ⟨b, k * 2, none⟩ = some (.int .i64 A.L[k].fr) ∧
    DPost3 w D A A.take (.returned (.tuple #[.int .i64 A.L[k].fr, .int .i64 A.L[k].S.take.1, .int .i64 0])) w'
theorem DAt.takes (R : DAt w D A) {k : Nat} (hk : k < A.L.length) {b : Nat} (ha : D.a = some ⟨b, 0, none⟩) (hp : pickL A.L = some A.L[k]) : DTakeAt w D A k hk b := by
  have hm := List.getElem_mem hk
  have hS := R.fam.at_ _ hm
  have hI := R.inv.inv _ hm
  have h0 := take_ok (pick_free hp hI)
  obtain ⟨b2, ha2, k0, _, _, _⟩ := R.place hk
  rw [ha] at ha2
  injection ha2 with ha2
  injection ha2 with ha2 _ _
  subst ha2
  have c2 := R.c2
  rw [ha] at c2
  refine (rtakeB_any (C := fun k' => inC (D.g A.L[k].fr).v k' ∨ w.heap.size ≤ k') hS hI (fun _ h => .inl h)).mono ?_
  rintro e w2 ⟨rfl, ⟨v', h1, h2⟩, h3⟩
  have hoff : ∀ q, D.hd q → ¬ (q = (D.g A.L[k].fr).r ∨ q = (D.g A.L[k].fr).b) := fun q hq hx => R.fam.off _ hm q (hx.elim .inl (fun h => .inr (.inl h))) hq
  refine ⟨by rw [h0], h3.cell (hoff _ (.inl rfl)) c2, h3.cell (hoff _ (.inr ha)) k0, ?_⟩
  have hz : A.take = (A.L[k].fr, A.L[k].S.take.1, 0, A.turned A.L[k].fr A.L[k].S.take.2.2) := by unfold Ca.take; rw [hp]
  rw [hz]
  exact ⟨rfl, _, R.turn hm (C := ⟨(D.g A.L[k].fr).r, (D.g A.L[k].fr).b, (D.g A.L[k].fr).bc, v'⟩) h1 rfl rfl h3 h2 hI.take (take_sz _)⟩
set_option maxRecDepth 100000 in
set_option maxHeartbeats 8000000 in
theorem dtake_any (R : DAt w D A) (hl : A.L.length ≤ 1000) : Calls Try.prog 16 #[.pointer (some ⟨D.d, 0, none⟩)] w (DPost3 w D A A.take) := by
  have c2 := R.c2
  have HR := Lib.hid R
  have HI := Lib.hid R.inv
  clear R
  go_enter Try.func16, Try.ntmps16
  go_wp2_with (fail)
  go_loop [5] (fun i => ∃ r : Nat, r ≤ 2 ∧ i = .int .i64 r ∧ Hid ((1 ≤ r → ∀ p ∈ A.L, p.prt = false) ∧ (2 ≤ r → ∀ p ∈ A.L, p.S.ch.length = 0))) (fun i => 2 - (intOf i).toNat)
  case atStart => exact ⟨0, by omega, rfl, Lib.hid ⟨fun h => absurd h (by omega), fun h => absurd h (by omega)⟩⟩
  case round =>
    obtain ⟨r, hr, rfl, HZ⟩ := hrel
    rcases (show r = 0 ∨ r = 1 ∨ r = 2 by omega) with rfl | rfl | rfl
    · clear hr HZ
      go_wp2_with (fail)
      go_loop [6] (fun i => ∃ k : Nat, k ≤ A.L.length ∧ i = .int .i64 k ∧ Hid (∀ j (h : j < A.L.length), j < k → A.L[j].prt = false)) (fun i => A.L.length - (intOf i).toNat)
      case atStart => exact ⟨0, Nat.zero_le _, rfl, Lib.hid fun j _ h => absurd h (Nat.not_lt_zero _)⟩
      case round =>
        obtain ⟨k, hk, rfl, HN⟩ := hrel
        by_cases hlt : k < A.L.length
        · obtain ⟨b, ha, k0, k1, hS, hI⟩ := HR.out.place hlt
          have hltI : (k : Int) < (A.L.length : Int) := by omega
          have HM := Lib.hid (fun (h : A.L[k].prt = false) => show ∀ j (h : j < A.L.length), j < k + 1 → A.L[j].prt = false from fun j h2 hj => by
            by_cases e : j < k
            · exact HN.out j h2 e
            · obtain rfl : j = k := by omega
              exact h)
          have HT := Lib.hid (fun (h : A.L[k].prt = true) => HR.out.takes hlt ha (pick_at hlt h HN.out))
          unfold DTakeAt at HT
          rw [ha] at c2
          clear ha HN
          have c3 : w.cell? ⟨(D.g A.L[k].fr).r, 3, none⟩ = some (.int .i64 A.L[k].S.n) := hS.c3
          have c4 := hS.c4
          obtain ⟨ca, cc, hcv, _, _⟩ := hS.chn
          rw [hcv] at c4
          have hle := hI.len
          have hn1 := hI.parts.2.2.2
          clear hS hI hcv
          by_cases hp : A.L[k].prt = true
          · have HT2 := Lib.hid (HT.out hp)
            unfold Pl.prt at hp
            simp only [Bool.and_eq_true, decide_eq_true_eq, Bool.not_eq_true', decide_eq_false_iff_not] at hp
            have h1 : (0 : Int) < (A.L[k].S.ch.length : Int) := by omega
            have h2 : (A.L[k].S.ch.length : Int) < (A.L[k].S.n : Int) := by omega
            clear hp HT HM hle hn1
            generalize A.L[k].S.ch.length = n1 at *
            generalize A.L[k].S.n = n2 at *
            generalize (D.g A.L[k].fr).r = rq at *
            go_wp2_with (fail)
            refine HT2.out.mono ?_
            rintro e w2 ⟨rfl, d2, d0, hP⟩
            have HP := Lib.hid hP
            clear hP c2 k0 k1 c3 c4
            generalize A.L[k].fr = xq at *
            generalize A.L[k].S.take.1 = iq at *
            go_wp2_with (fail)
            go_ret3
            exact HP.out
          · have HM2 := Lib.hid (HM.out (by simpa using hp))
            have hcs : A.L[k].S.ch.length = 0 ∨ (0 < A.L[k].S.ch.length ∧ A.L[k].S.ch.length = A.L[k].S.n) := by
              unfold Pl.prt at hp
              simp only [Bool.and_eq_true, decide_eq_true_eq, Bool.not_eq_true', decide_eq_false_iff_not] at hp
              omega
            clear hp HT HM hle hn1
            generalize A.L[k].S.ch.length = n1 at *
            generalize A.L[k].S.n = n2 at *
            generalize (D.g A.L[k].fr).r = rq at *
            rcases hcs with rfl | ⟨h1, rfl⟩
            · go_wp2_with (fail)
              go_round
              case rel => exact ⟨k + 1, hlt, by go_num, HM2⟩
              case measure => simp [intOf]; omega
            · have h1I : (0 : Int) < (n1 : Int) := by omega
              go_wp2_with (fail)
              go_round
              case rel => exact ⟨k + 1, hlt, by go_num, HM2⟩
              case measure => simp [intOf]; omega
        · obtain rfl : k = A.L.length := by omega
          have HM := Lib.hid (show (1 ≤ 0 + 1 → ∀ p ∈ A.L, p.prt = false) ∧ (2 ≤ 0 + 1 → ∀ p ∈ A.L, p.S.ch.length = 0) from ⟨fun _ p hp => by
            obtain ⟨j, hj, rfl⟩ := List.mem_iff_getElem.1 hp
            exact HN.out j hj hj, fun h => absurd h (by omega)⟩)
          clear HN
          go_wp2_with (fail)
          go_round
          case rel => exact ⟨0 + 1, by omega, by go_num, HM⟩
          case measure => simp [intOf]
    · have HZ1 := Lib.hid (HZ.out.1 (Nat.le_refl _))
      clear hr HZ
      go_wp2_with (fail)
      go_loop [6] (fun i => ∃ k : Nat, k ≤ A.L.length ∧ i = .int .i64 k ∧ Hid (∀ j (h : j < A.L.length), j < k → A.L[j].S.ch.length = 0)) (fun i => A.L.length - (intOf i).toNat)
      case atStart => exact ⟨0, Nat.zero_le _, rfl, Lib.hid fun j _ h => absurd h (Nat.not_lt_zero _)⟩
      case round =>
        obtain ⟨k, hk, rfl, HN⟩ := hrel
        by_cases hlt : k < A.L.length
        · obtain ⟨b, ha, k0, k1, hS, hI⟩ := HR.out.place hlt
          have hltI : (k : Int) < (A.L.length : Int) := by omega
          have HM := Lib.hid (fun (h : A.L[k].S.ch.length = 0) => show ∀ j (h : j < A.L.length), j < k + 1 → A.L[j].S.ch.length = 0 from fun j h2 hj => by
            by_cases e : j < k
            · exact HN.out j h2 e
            · obtain rfl : j = k := by omega
              exact h)
          have HT := Lib.hid (fun (h : 0 < A.L[k].S.ch.length) => HR.out.takes hlt ha (pick_at2 HI.out.inv HZ1.out hlt h HN.out))
          unfold DTakeAt at HT
          rw [ha] at c2
          clear ha HN
          have c3 : w.cell? ⟨(D.g A.L[k].fr).r, 3, none⟩ = some (.int .i64 A.L[k].S.n) := hS.c3
          have c4 := hS.c4
          obtain ⟨ca, cc, hcv, _, _⟩ := hS.chn
          rw [hcv] at c4
          have hle := hI.len
          have hn1 := hI.parts.2.2.2
          have hq0 := HZ1.out _ (List.getElem_mem hlt)
          clear hS hI hcv
          by_cases hp : 0 < A.L[k].S.ch.length
          · have HT2 := Lib.hid (HT.out hp)
            have h2 : A.L[k].S.ch.length = A.L[k].S.n := by
              unfold Pl.prt at hq0
              rw [decide_eq_true hp, Bool.true_and] at hq0
              simpa using hq0
            have h1 : (0 : Int) < (A.L[k].S.ch.length : Int) := by omega
            have h1b : ((A.L[k].S.ch.length : Int) == 0) = false := by rw [beq_eq_false_iff_ne]; omega
            rw [← h2] at c3
            clear hp HT HM hle hn1 hq0 h2
            generalize A.L[k].S.ch.length = n1 at *
            generalize (D.g A.L[k].fr).r = rq at *
            go_wp2_with (fail)
            refine HT2.out.mono ?_
            rintro e w2 ⟨rfl, d2, d0, hP⟩
            have HP := Lib.hid hP
            clear hP c2 k0 k1 c3 c4
            generalize A.L[k].fr = xq at *
            generalize A.L[k].S.take.1 = iq at *
            go_wp2_with (fail)
            go_ret3
            exact HP.out
          · have hz : A.L[k].S.ch.length = 0 := by omega
            have HM2 := Lib.hid (HM.out hz)
            rw [hz] at c4
            clear hp HT HM hle hn1 hq0 hz
            generalize A.L[k].S.n = n2 at *
            generalize (D.g A.L[k].fr).r = rq at *
            go_wp2_with (fail)
            go_round
            case rel => exact ⟨k + 1, hlt, by go_num, HM2⟩
            case measure => simp [intOf]; omega
        · obtain rfl : k = A.L.length := by omega
          have HM := Lib.hid (show (1 ≤ 1 + 1 → ∀ p ∈ A.L, p.prt = false) ∧ (2 ≤ 1 + 1 → ∀ p ∈ A.L, p.S.ch.length = 0) from ⟨fun _ => HZ1.out, fun _ p hp => by
            obtain ⟨j, hj, rfl⟩ := List.mem_iff_getElem.1 hp
            exact HN.out j hj hj⟩)
          clear HN
          go_wp2_with (fail)
          go_round
          case rel => exact ⟨1 + 1, by omega, by go_num, HM⟩
          case measure => simp [intOf]
    · have hz : A.take = (0, 0, 7, A) := by unfold Ca.take; rw [pick_none HI.out.inv (HZ.out.2 (Nat.le_refl _))]
      have HP := Lib.hid (show DPost3 w D A A.take (.returned (.tuple #[.int .i64 0, .int .i64 0, .int .i64 7])) w from by rw [hz]; exact ⟨rfl, D, DTurn.same HR.out⟩)
      clear hz HZ c2
      go_wp2_with (fail)
      go_ret3
      exact HP.out
end
end Go.Proofs.Ytlimbcpghfddkaa
