/-
  device's law: the device beside the document's; bytes of a call.
-/
import Derived.Test.YtadjkanjlkammaaDvRead
namespace Go.Proofs.Ytadjkanjlkammaa
open Go.RowKit Go

/-- m bytes in a row of the call's own, if there are any. -/
def Own (w : World) (base : Nat) (a : Option Addr) (m : Nat) (x : Nat → UInt8) : Prop := m = 0 ∨ ∃ g, a = some ⟨g, 0, none⟩ ∧ base ≤ g ∧ RowAt w g m (byV x)
theorem Own.src {w : World} {base : Nat} {a : Option Addr} {m : Nat} {x : Nat → UInt8} (h : Own w base a m x) : Src w a m x := by
  rcases h with rfl | ⟨g, rfl, _, R⟩
  · exact Src.nil _ _ _
  · exact Src.of_row R (fun j hj => ⟨by omega, by rw [Nat.zero_add]⟩)
theorem Own.later {w w' : World} {base : Nat} {a : Option Addr} {m : Nat} {x : Nat → UInt8} (h : Own w base a m x) (hb : Below w.heap.size w w') : Own w' base a m x := by
  rcases h with rfl | ⟨g, rfl, h1, R⟩
  · exact .inl rfl
  · exact .inr ⟨g, rfl, h1, R.later hb⟩

/-- What Write leaves, whatever it is asked. -/
def DvWr (w : World) (D : DB) (B : Nat → UInt8) (sl : Int) (len : Nat) (x : Nat → UInt8) (fail : Bool) (e : Ending) (w' : World) : Prop :=
  e = .returned (.int .i64 (wrE D.n sl len fail)) ∧ DevAt w' D (if wrE D.n sl len fail = 0 then putB B (sl.toNat * 256) 256 x else B) ∧ Only (Eq D.sb) w w'
theorem dwrite_any {w : World} {D : DB} {B : Nat → UInt8} (H : DevAt w D B) (sl : Int) (b : Option Addr) (len c : Nat) (x : Nat → UInt8) (fail : Bool) (X : Src w b len x) :
    Calls Try.prog 13 #[.pointer (some ⟨D.d, 0, none⟩), .int .i64 sl, .slice b len c, .bool fail] w (DvWr w D B sl len x fail) := by
  by_cases h1 : 0 ≤ sl ∧ sl < D.n
  · by_cases h2 : len = 256
    · subst h2
      cases fail with
      | true =>
        have e : wrE D.n sl 256 true = 40 := by unfold wrE; rw [if_pos ⟨h1.1, h1.2, rfl⟩]; rfl
        unfold DvWr
        rw [e]
        exact (write_fail H sl h1 b c).mono fun _ _ ⟨he, hw⟩ => ⟨he, hw ▸ H, hw ▸ Only.refl _ _⟩
      | false =>
        obtain ⟨f, rfl⟩ := Int.eq_ofNat_of_zero_le h1.1
        have e : wrE D.n f 256 false = 0 := by unfold wrE; rw [if_pos ⟨h1.1, h1.2, rfl⟩]; rfl
        unfold DvWr
        rw [e]
        exact write_ok H f (by omega) b c x X
    · have e : wrE D.n sl len fail = 2 := by unfold wrE; rw [if_neg (fun h => h2 h.2.2)]
      unfold DvWr
      rw [e]
      exact (write_len H sl h1 b len c fail h2).mono fun _ _ ⟨he, hw⟩ => ⟨he, hw ▸ H, hw ▸ Only.refl _ _⟩
  · have e : wrE D.n sl len fail = 2 := by unfold wrE; rw [if_neg (fun h => h1 ⟨h.1, h.2.1⟩)]
    unfold DvWr
    rw [e]
    exact (write_err _ sl 2 b len c fail w (by decide) (asked_at H sl 2 (.inr ⟨h1, rfl⟩))).mono fun _ _ ⟨he, hw⟩ => ⟨he, hw ▸ H, hw ▸ Only.refl _ _⟩

/-- What Read leaves, whatever it is asked. -/
def DvRd (w : World) (n : Nat) (B : Nat → UInt8) (sl : Int) (fail : Bool) (e : Ending) (w' : World) : Prop :=
  ∃ a c, e = .returned (.tuple #[.slice a (rdM n sl fail) c, .int .i64 (rdE n sl fail)]) ∧ Own w' w.heap.size a (rdM n sl fail) (fun i => B (sl.toNat * 256 + i)) ∧ Below w.heap.size w w'
theorem dread_any {w : World} {D : DB} {B : Nat → UInt8} (H : DevAt w D B) (sl : Int) (fail : Bool) :
    Calls Try.prog 17 #[.pointer (some ⟨D.d, 0, none⟩), .int .i64 sl, .bool fail] w (DvRd w D.n B sl fail) := by
  by_cases h1 : 0 ≤ sl ∧ sl < D.n
  · cases fail with
    | true =>
      have e : rdE D.n sl true = 40 := by unfold rdE; rw [if_pos h1]; rfl
      have m : rdM D.n sl true = 0 := by unfold rdM; rw [if_neg (by simp)]
      exact (read_fail H sl h1).mono fun _ _ ⟨he, hw⟩ => ⟨none, 0, by rw [he, e, m], .inl m, hw ▸ Below.refl _ _⟩
    | false =>
      obtain ⟨f, rfl⟩ := Int.eq_ofNat_of_zero_le h1.1
      have e : rdE D.n f false = 0 := by unfold rdE; rw [if_pos h1]; rfl
      have m : rdM D.n f false = 256 := by unfold rdM; rw [if_pos ⟨h1.1, h1.2, rfl⟩]
      refine (read_ok H f (by omega) (fun i => B (f * 256 + i)) (fun _ _ => rfl)).mono fun _ _ ⟨g, cap, he, hg, hr, hb⟩ => ⟨some ⟨g, 0, none⟩, cap, by rw [he, e, m], .inr ⟨g, rfl, hg, ?_⟩, hb⟩
      rw [m]; exact hr
  · have e : rdE D.n sl fail = 2 := by unfold rdE; rw [if_neg h1]
    have m : rdM D.n sl fail = 0 := by unfold rdM; rw [if_neg (fun h => h1 ⟨h.1, h.2.1⟩)]
    exact (read_err _ sl 2 fail w (by decide) (asked_at H sl 2 (.inr ⟨h1, rfl⟩))).mono fun _ _ ⟨he, hw⟩ => ⟨none, 0, by rw [he, e, m], .inl m, hw ▸ Below.refl _ _⟩

/-- What bytes leaves. -/
def BytesOf (w : World) (e : Ending) (w' : World) : Prop := ∃ a n c x, e = .returned (.slice a n c) ∧ Src w' a n x ∧ n ≤ 600 ∧ Below w.heap.size w w'
set_option maxHeartbeats 400000 in
theorem bytes_any {w : World} (o : Op4) (S : Src w o.bp o.bl o.x) (hl : o.bl ≤ 600) : Calls Try.prog 12 #[.agg #[.int .i64 o.kind, .int .i64 o.slot, .slice o.bp o.bl o.bc, .bool o.short, .bool o.fail]] w (BytesOf w) := by
  obtain ⟨kind, slot, bp, bl, bc, x, short, fail⟩ := o
  dsimp only at S hl ⊢
  have hb1 : Below w.heap.size w (w.alloc (.cells #[.int .i64 kind, .int .i64 slot, .slice bp bl bc, .bool short, .bool fail] 34)) := (Below.refl _ _).alloc (Nat.le_refl _) _
  have HB := Lib.hid hb1
  have HS := Lib.hid (S.later hb1)
  clear S hb1
  cases short with
  | true =>
    go_enter Try.func12, Try.ntmps12
    go_wp2_with (fail)
    go_ret
    exact ⟨bp, bl, bc, x, rfl, HS.out, hl, HB.out⟩
  | false =>
    by_cases hb : bl ≤ 256
    · go_enter Try.func12, Try.ntmps12
      go_wp2_with (fail)
      refine (page_any HS.out hb).mono ?_
      rintro e w2 ⟨g, c, rfl, _, _, hr, hb2⟩
      have HS2 := Lib.hid (Src.row hr)
      have HB2 := Lib.hid (HB.out.trans (hb2.mono HB.out.size))
      clear hr hb2
      go_wp2_with (fail)
      go_ret
      exact ⟨_, 256, c, _, rfl, HS2.out, by decide, HB2.out⟩
    · go_enter Try.func12, Try.ntmps12
      go_wp2_with (fail)
      go_ret
      exact ⟨bp, bl, bc, x, rfl, HS.out, hl, HB.out⟩

/-- A device and the document's, side by side. -/
structure PlAt (w0 : World) (n r rb : Nat) (D : DB) (B : Nat → UInt8) (S : Nat → ByteArray) (w : World) : Prop where
  dev : DevAt w D B
  ref : RefAt w r rb n S
  hn : D.n = n
  rel : Same n S B
  bel : Below w0.heap.size w0 w
  u1 : w0.heap.size ≤ D.d
  u2 : w0.heap.size ≤ D.sb
  u3 : w0.heap.size ≤ r
  u4 : w0.heap.size ≤ rb
  a1 : D.d ≠ rb
  a2 : D.sb ≠ r
  a3 : D.sb ≠ rb
theorem PlAt.later {w0 : World} {n r rb : Nat} {D : DB} {B : Nat → UInt8} {S : Nat → ByteArray} {w w' : World} (P : PlAt w0 n r rb D B S w) (h : Below w.heap.size w w') : PlAt w0 n r rb D B S w' :=
  ⟨P.dev.later h, P.ref.later h, P.hn, P.rel, P.bel.trans (h.mono P.bel.size), P.u1, P.u2, P.u3, P.u4, P.a1, P.a2, P.a3⟩
/-- A block is none of theirs, but the call's own. -/
structure Off (w0 : World) (r rb : Nat) (D : DB) (g : Nat) : Prop where
  lo : w0.heap.size ≤ g
  o1 : g ≠ D.d
  o2 : g ≠ D.sb
  o3 : g ≠ r
  o4 : g ≠ rb
theorem PlAt.off {w0 : World} {n r rb : Nat} {D : DB} {B : Nat → UInt8} {S : Nat → ByteArray} {w : World} (P : PlAt w0 n r rb D B S w) {g : Nat} (h : w.heap.size ≤ g) : Off w0 r rb D g := by
  have h1 := P.dev.lt
  have h2 := P.ref.lt
  have h3 := P.bel.size
  exact ⟨by omega, by omega, by omega, by omega, by omega⟩
theorem PlAt.other {w0 : World} {n r rb : Nat} {D : DB} {B : Nat → UInt8} {S : Nat → ByteArray} {w w' : World} (P : PlAt w0 n r rb D B S w) {g : Nat} (hg : Off w0 r rb D g) (h : Only (Eq g) w w') : PlAt w0 n r rb D B S w' :=
  ⟨P.dev.only h hg.o1 hg.o2, P.ref.only h hg.o3 hg.o4, P.hn, P.rel, h.below P.bel P.bel.size (fun k hk => by have := hg.lo; omega), P.u1, P.u2, P.u3, P.u4, P.a1, P.a2, P.a3⟩
/-- Both have written. -/
theorem PlAt.wrote {w0 : World} {n r rb : Nat} {D : DB} {B B' : Nat → UInt8} {S S' : Nat → ByteArray} {w w1 w2 : World} (P : PlAt w0 n r rb D B S w) (H1 : DevAt w1 D B') (h1 : Only (Eq D.sb) w w1) (H2 : RefAt w2 r rb n S') (h2 : Only (Eq rb) w1 w2) (hs : Same n S' B') : PlAt w0 n r rb D B' S' w2 :=
  ⟨H1.only h2 (fun e => P.a1 e.symm) (fun e => P.a3 e.symm), H2, P.hn, hs, h2.below (h1.below P.bel P.bel.size (fun k hk => by have := P.u2; omega)) (Nat.le_trans P.bel.size h1.size) (fun k hk => by have := P.u4; omega), P.u1, P.u2, P.u3, P.u4, P.a1, P.a2, P.a3⟩
theorem PlAt.refAt {w0 : World} {n r rb : Nat} {D : DB} {B : Nat → UInt8} {S : Nat → ByteArray} {w w1 : World} (P : PlAt w0 n r rb D B S w) (h1 : Only (Eq D.sb) w w1) : RefAt w1 r rb n S := P.ref.only h1 P.a2 P.a3
theorem PlAt.same {w0 : World} {n r rb : Nat} {D : DB} {B : Nat → UInt8} {S : Nat → ByteArray} {w : World} (P : PlAt w0 n r rb D B S w) (sl : Int) (len : Nat) (x : Nat → UInt8) (fail : Bool) :
    Same n (if wrE n sl len fail = 0 then updS S sl.toNat (strB 256 x) else S) (if wrE D.n sl len fail = 0 then putB B (sl.toNat * 256) 256 x else B) := by
  rw [P.hn]
  split
  · exact P.rel.put _ _
  · exact P.rel
/-- A copy takes the device's place. -/
theorem PlAt.swap {w0 : World} {n r rb : Nat} {D E : DB} {B : Nat → UInt8} {S : Nat → ByteArray} {w w2 : World} (P : PlAt w0 n r rb D B S w) (H : DevAt w2 E B) (hR : RefAt w2 r rb n S) (hE : E.n = D.n) (h1 : w.heap.size ≤ E.d) (h2 : w.heap.size ≤ E.sb) (hb : Below w0.heap.size w0 w2) : PlAt w0 n r rb E B S w2 := by
  have l := P.ref.lt
  have s := P.bel.size
  exact ⟨H, hR, hE.trans P.hn, P.rel, hb, by omega, by omega, P.u3, P.u4, by omega, by omega, by omega⟩
end Go.Proofs.Ytadjkanjlkammaa
