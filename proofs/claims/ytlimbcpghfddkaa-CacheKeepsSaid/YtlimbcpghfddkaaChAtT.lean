/-
  chain: the landed slab: Take, Chain.
-/
import Derived.Test.YtlimbcpghfddkaaChAtX
namespace Go.Proofs.Ytlimbcpghfddkaa
open Go.RowKit Go

theorem zero_byte (w : World) : (zeroValue 5).run Try.prog w = .ok (.int .u8 0) w := by kernel_rfl
theorem SPost2.same {w w' : World} {C : SC} {S : Sl} {p q : Int} (A : SlAt w C S) (h : Below w.heap.size w w') : SPost2 SlAt w C (p, q, S) (.returned (.tuple #[.int .i64 p, .int .i64 q])) w' := ⟨rfl, A.later h, Only.of_below h⟩
section
variable {w w' : World} {C : SC} {S : Sl}
set_option maxRecDepth 100000 in
set_option maxHeartbeats 4000000 in
theorem ptake_any (A : SlAt w C S) : Calls Try.prog 43 #[.pointer (some ⟨C.s, 0, none⟩)] w (SPost2 SlAt w C S.take) := by
  have HM := Lib.hid (pmissing_any A.at_)
  have HA := Lib.hid A
  have hn := A.at_.n32
  have c3 := A.at_.c3
  cases hS : S.ch with
  | nil =>
    have hz : S.take = (0, 9, S) := by unfold Sl.take; rw [hS]
    have hh : S.has 255 = false := has_no.2 (.inr (by omega))
    have HH := Lib.hid (phas_any A.at_ 255)
    rw [hh] at HH
    rw [hS] at c3
    have c3 : w.cell? ⟨C.s, 3, none⟩ = some (.int .i64 255) := c3
    rw [hz]
    clear hz A hh hS
    go_enter Try.func43, Try.ntmps43
    go_wp2_with (fail)
    refine HM.out.mono ?_
    rintro e w1 ⟨rfl, rfl⟩
    go_wp2_with (fail)
    refine HH.out.mono ?_
    rintro e w1 ⟨rfl, hb⟩
    have HP := Lib.hid (SPost2.same (p := 0) (q := 9) HA.out hb)
    clear hb
    go_wp2_with (fail)
    go_ret2
    exact HP.out
  | cons i l =>
    have hi : i < S.n := A.inv.lt i (by rw [hS]; simp)
    have hz : S.take = ((i : Int), 0, { S with ch := l, out := updC S.out i true, bt := putB S.bt (S.pos i) S.sz (fun _ => 0) }) := by unfold Sl.take; rw [hS]
    have HI := Lib.hid (show SlI { S with ch := l, out := updC S.out i true, bt := putB S.bt (S.pos i) S.sz (fun _ => 0) } by
      have h := A.inv.take
      rw [hz] at h
      exact h)
    have ho : S.out i = false := by
      cases h : S.out i with
      | false => rfl
      | true => exact absurd (show i ∈ S.ch by rw [hS]; simp) ((A.inv.out i hi).1 h)
    have hh : S.has i = true := has_nat.2 hi
    have HH := Lib.hid (phas_any A.at_ i)
    rw [hh] at HH
    rw [hS] at c3
    have c3 : w.cell? ⟨C.s, 3, none⟩ = some (.int .i64 i) := c3
    have hi32 : (i : Int) < 32 := by omega
    have hin : i < 32 := by omega
    have hnx : (S.bt (S.pos i)).toNat = l.getD 0 255 := by
      have h1 := A.inv.link 0 (by rw [hS]; simp)
      rw [hS] at h1
      have h2 : S.bt (S.pos i) = nxt (i :: l) 1 := h1
      rw [h2]
      have h3 : l.getD 0 255 < 256 := HI.out.first
      unfold nxt
      show (UInt8.ofNat (l.getD 0 255)).toNat = _
      rw [UInt8.toNat_ofNat_of_lt' (by simpa [UInt8.size] using h3)]
    obtain ⟨fi, hfi⟩ : ∃ fi, l.getD 0 255 = fi := ⟨_, rfl⟩
    rw [hfi] at hnx
    have HFI := Lib.hid hfi
    have HN := Lib.hid (fun W (h : Below w.heap.size w W) => by
      have h := pnext_any (A.at_.later h) hi
      rw [hnx] at h
      exact h)
    have hlen := A.inv.len
    have hl1 : S.ch.length = l.length + 1 := by rw [hS]; rfl
    have hfit := pos_fit A.at_.may hi
    have p1 := (may_parts A.at_.may).1
    have hpl : S.place i = ((S.pos i : Int), (S.pos i + S.sz : Int)) := by unfold Sl.place; rw [if_pos hh, Int.toNat_natCast]
    have HSI := Lib.hid hi
    have HL1 := Lib.hid hl1
    rw [hz]
    have HMAY := Lib.hid A.at_.may
    clear hz A hh hS hnx hfi
    go_enter Try.func43, Try.ntmps43
    go_wp2_with (fail)
    refine HM.out.mono ?_
    rintro e w1 ⟨rfl, rfl⟩
    go_wp2_with (fail)
    refine HH.out.mono ?_
    rintro e w1 ⟨rfl, hb⟩
    have HB1 := Lib.hid hb
    have co := (HA.out.at_.later hb).co hin
    rw [ho] at co
    clear hb c3 HM HH
    go_wp2_with (fail)
    refine (HN.out w1 HB1.out).mono ?_
    rintro e w2 ⟨rfl, hb⟩
    have HB2 := Lib.hid (HB1.out.trans (hb.mono HB1.out.size))
    clear hb co HN HB1
    have R2 := HA.out.at_.later HB2.out
    have c3 := R2.c3
    have f3 : w2.frozen? ⟨C.s, 3, none⟩ = false := R2.row.frozen _
    have hs3 := R2.setFi fi
    have c4 := hs3.1.c4
    have f4 : (w2.setCell ⟨C.s, 3, none⟩ (.int .i64 fi)).frozen? ⟨C.s, 4, none⟩ = false := hs3.1.row.frozen _
    have hs4 := hs3.1.setFr (l.length : Nat)
    have c5 := hs4.1.co hin
    have f5 : ((w2.setCell ⟨C.s, 3, none⟩ (.int .i64 fi)).setCell ⟨C.s, 4, none⟩ (.int .i64 (l.length : Nat))).frozen? ⟨C.s, 5 + i, none⟩ = false := hs4.1.row.frozen _
    have hs5 := hs4.1.setOut hin true
    have HS5 := Lib.hid (hs5.1.ch l)
    have HO5 := Lib.hid ((((Only.of_below (S := C.all) HB2.out).trans (hs3.2.mono (fun q hq => HA.out.all (.inl hq)))).trans (hs4.2.mono (fun q hq => HA.out.all (.inl hq)))).trans (hs5.2.mono (fun q hq => HA.out.all (.inl hq))))
    rw [hl1] at c4
    have hlI : ((l.length : Nat) : Int) ≤ 100 := by omega
    have e4 : wrap64 ((l.length : Nat) : Int) = (l.length : Nat) := by unfold wrap64; omega
    clear hs3 hs4 hs5 R2 hl1 hlen HL1
    go_wp2_with (fail)
    generalize ((w2.setCell ⟨C.s, 3, none⟩ (.int .i64 fi)).setCell ⟨C.s, 4, none⟩ (.int .i64 (l.length : Nat))).setCell ⟨C.s, 5 + i, none⟩ (.bool true) = w5 at *
    have HP5 := pat_any HS5.out i
    have hpl5 : Sl.place { S with ch := l, out := updC S.out i true } i = S.place i := rfl
    rw [show Sl.place _ i = S.place i from hpl5, hpl] at HP5
    refine HP5.mono ?_
    rintro e w6 ⟨rfl, hb⟩
    have R6 := HS5.out.later hb
    have HR6 := Lib.hid R6
    have HO6 := Lib.hid (HO5.out.trans (Only.of_below hb))
    have c0 := R6.c0
    obtain ⟨p, hp⟩ : ∃ p, S.pos i = p := ⟨_, rfl⟩
    rw [hp] at hfit
    have hcap := HA.out.cap
    obtain ⟨w7, hrun, hrow, ho7⟩ := run_clear_row (P := Try.prog) Try.underlying34 zero_byte 0 C.b p S.sz (C.bc - p) 256 _ w6 R6.byt hfit (by omega)
    rw [hp]
    have HF := Lib.hid (show SPost2 SlAt w C ((i : Int), 0, { S with ch := l, out := updC S.out i true, bt := putB S.bt (S.pos i) S.sz (fun _ => 0) }) (.returned (.tuple #[.int .i64 i, .int .i64 0])) w7 from by
      refine ⟨rfl, HA.out.turned ?_ HI.out, HO6.out.trans (ho7.mono (fun q hq => HA.out.all (.inr hq)))⟩
      show PAt w7 C.s C.b C.bc _ (l.getD 0 255 : Nat) (l.length : Nat)
      rw [HFI.out, hp]
      exact HR6.out.setBytes (hrow.ext (fun j _ => putF_byV S.bt p S.sz (fun _ => 0) j)) ho7)
    have hp256 : (p : Int) ≤ 256 := by omega
    have hcI : (256 : Int) ≤ (C.bc : Int) := by omega
    have hfI : (p : Int) + (S.sz : Int) ≤ 256 := by omega
    clear hb R6 HP5 hpl5 hpl hrow ho7 hp
    go_wp2_with (fail)
    go_ret2
    exact HF.out
theorem SlI.at_lt (I : SlI S) {k : Nat} : S.ch.getD k 255 < 256 := by
  have h1 := I.parts.2.2.2.1
  by_cases h : k < S.ch.length
  · have := I.lt _ (getD_mem (d := 255) h)
    omega
  · rw [List.getD_eq_getElem?_getD, List.getElem?_eq_none (by omega)]
    decide
theorem SlI.next (I : SlI S) {k : Nat} (h : k < S.ch.length) : (S.bt (S.pos (S.ch.getD k 255))).toNat = S.ch.getD (k + 1) 255 := by
  have e : S.ch.getD k 255 = S.ch.getD k 0 := by rw [List.getD_eq_getElem?_getD, List.getD_eq_getElem?_getD, List.getElem?_eq_getElem h]; rfl
  rw [e, I.link k h]
  unfold nxt
  rw [UInt8.toNat_ofNat_of_lt' (by simpa [UInt8.size] using I.at_lt)]
theorem natV_take {l : List Nat} {k : Nat} (h : k < l.length) : natV (l.take (k + 1)) = natV (l.take k) ++ (#[Value.int .i64 (l.getD k 255 : Nat)] : Array Value).toList := by
  have e : l.getD k 255 = l[k] := by rw [List.getD_eq_getElem?_getD, List.getElem?_eq_getElem h]; rfl
  unfold natV
  rw [e, List.take_succ_eq_append_getElem h, List.map_append]
  rfl
/-- While the chain is told. -/
structure TcAt (w : World) (C : SC) (S : Sl) (k : Nat) (v : Value) (W : World) : Prop where
  at_ : SlAt W C S
  own : W.ownsRow w.heap.size 3 1 v k (natV (S.ch.take k))
  bel : Below w.heap.size w W
theorem TcAt.later {k : Nat} {v : Value} {W W' : World} (H : TcAt w C S k v W) (h : Below W.heap.size W W') : TcAt w C S k v W' :=
  ⟨H.at_.later h, owns_later H.own h, H.bel.trans (h.mono H.bel.size)⟩
theorem SlAt.only (A : SlAt w C S) {P : Nat → Prop} (h : Only P w w') (hk : ∀ k, C.all k → ¬ P k) : SlAt w' C S :=
  ⟨⟨A.at_.row.only h (hk _ (A.all (.inl rfl))), A.at_.byt.only h (hk _ (A.all (.inr rfl))), A.at_.ne, A.at_.may⟩, A.inv, A.own, A.cap⟩
theorem SlAt.lt (A : SlAt w C S) : ∀ k, C.all k → k < w.heap.size := fun k hk => by
  rcases hk with hk | hk
  · rw [(A.own k).1 hk]; exact A.at_.row.lt
  · rw [hk]; exact A.at_.byt.lt
theorem TcAt.more {k : Nat} {v v' : Value} {W W' : World} (H : TcAt w C S k v W) (hlt : ∀ k, C.all k → k < w.heap.size) (hk : k < S.ch.length) (hown : W'.ownsRow w.heap.size 3 1 v' (k + 1) (natV (S.ch.take k) ++ (#[Value.int .i64 (S.ch.getD k 255 : Nat)] : Array Value).toList)) (ho : Only (fun q => v.ownBlock = some q) W W') : TcAt w C S (k + 1) v' W' := by
  have hb : ∀ q, v.ownBlock = some q → w.heap.size ≤ q := fun q h => (H.own.lt q h).1
  refine ⟨H.at_.only ho (fun q hq h => ?_), ?_, ho.below H.bel H.bel.size (fun q h => hb q h)⟩
  · have := hb q h
    have := hlt q hq
    omega
  · rw [natV_take hk]
    exact hown
set_option maxRecDepth 100000 in
set_option maxHeartbeats 4000000 in
theorem pchain_any (A : SlAt w C S) : Calls Try.prog 52 #[.pointer (some ⟨C.s, 0, none⟩)] w (SChain w S.ch) := by
  obtain ⟨i0, hi, hz0, hz1, hz2⟩ := info_parts intInfoC
  have c3 := A.at_.c3
  have HI := Lib.hid A.inv
  have hlen := A.inv.len
  have hn := A.at_.n32
  have HLT := Lib.hid A.lt
  have HT0 := Lib.hid (show TcAt w C S 0 (.slice none 0 0) w from ⟨A, World.ownsRow_nil _ _ _ _, Below.refl _ _⟩)
  clear A
  obtain ⟨x0, hx0⟩ : ∃ x, S.ch.getD 0 255 = x := ⟨_, rfl⟩
  rw [hx0] at c3
  have HX0 := Lib.hid hx0
  clear hx0
  go_enter Try.func52, Try.ntmps52
  go_wp2_with (fail)
  clear c3
  go_loopw [3, 4] (fun v q wr => ∃ k : Nat, k ≤ S.ch.length ∧ q = .int .i64 (S.ch.getD k 255 : Nat) ∧ (∃ a c, v = .slice a k c) ∧ Hid (TcAt w C S k v wr)) (fun v _ _ => S.ch.length - (match v with | .slice _ n _ => n | _ => 0))
  case atStart => exact ⟨0, Nat.zero_le _, by rw [HX0.out], ⟨_, _, rfl⟩, HT0⟩
  case round =>
    clear HT0
    obtain ⟨k, hk, rfl, ⟨a, c, rfl⟩, HT⟩ := hrel
    have c4 := HT.out.at_.at_.c4
    obtain ⟨x, hx⟩ : ∃ x, S.ch.getD k 255 = x := ⟨_, rfl⟩
    rw [hx]
    by_cases hlt : k < S.ch.length
    · have hltI : (k : Int) < (S.ch.length : Int) := by omega
      have hin : x < S.n := by
        have e : S.ch.getD k 255 = S.ch.getD k 0 := by rw [List.getD_eq_getElem?_getD, List.getD_eq_getElem?_getD, List.getElem?_eq_getElem hlt]; rfl
        rw [← hx, e]
        exact HI.out.lt _ (getD_mem hlt)
      have HH := phas_any HT.out.at_.at_ (x : Nat)
      rw [has_nat.2 hin] at HH
      have HHH := Lib.hid HH
      have HIN := Lib.hid hin
      have HLK := Lib.hid hlt
      obtain ⟨y, hy⟩ : ∃ y, S.ch.getD (k + 1) 255 = y := ⟨_, rfl⟩
      have HNX := Lib.hid (show (S.bt (S.pos x)).toNat = y by
        rw [← hx, ← hy]
        exact HI.out.next hlt)
      have HY := Lib.hid hy
      have HX := Lib.hid hx
      clear HH hx hin hy
      go_wp2_with (fail)
      refine HHH.out.mono ?_
      rintro e w1 ⟨rfl, hb⟩
      have HT1 := Lib.hid (HT.out.later hb)
      clear hb HT HHH c4
      have HOW := Lib.hid HT1.out.own
      have HLE := Lib.hid HT1.out.bel.size
      go_wp2_with (first | (at_builtin; refine wpList_append_one w1 rfl _ _ 52 rfl w.heap.size 3 i0 _ 1 8 Try.underlying52 hi hz0 hz1 hz2 rfl (by decide) _ _ _ #[.int .i64 (x : Nat)] HOW.out HLE.out rfl rfl rfl (one_cell _ _) (by omega) (by decide) ?_; intro v3 w3 hown3 ho3 _; obtain ⟨a3, cc3, rfl, _⟩ := owns_slice hown3) | fail)
      have HT3 := Lib.hid (HT1.out.more HLT.out HLK.out (by rw [HX.out]; exact hown3) ho3)
      clear hown3 ho3 HOW HLE HT1
      have hP := pnext_any HT3.out.at_.at_ HIN.out
      rw [HNX.out] at hP
      refine hP.mono ?_
      rintro e w4 ⟨rfl, hb⟩
      have HT4 := Lib.hid (HT3.out.later hb)
      clear hb HT3 hP
      go_wp2_with (fail)
      go_roundw
      case rel => exact ⟨k + 1, HLK.out, by rw [HY.out], ⟨_, _, rfl⟩, HT4⟩
      case measure =>
        have := HLK.out
        simp
        omega
    · obtain rfl : k = S.ch.length := by omega
      have HX := Lib.hid hx
      clear hx
      go_wp2_with (fail)
      go_ret
      have h := HT.out.own
      rw [List.take_length] at h
      exact ⟨a, c, rfl, h, HT.out.bel⟩
end
end Go.Proofs.Ytlimbcpghfddkaa
