/-
  areas' laws: some areas and the document's side by side, and a call's own box.
-/
import Derived.Test.YthnkbipdlepbaaaArSame
import Derived.Test.YthnkbipdlepbaaaArOps
namespace Go.Proofs.Ythnkbipdlepbaaa
open Go.RowKit Go.Shelf Go

/-- Both, and a call in a box. -/
def PO (IsA : Thg → Nat → (Nat → Nat) → Prop) (w0 : World) (d rb : Nat) (f h : Nat → Nat) (ob : Nat) (o : OpA) (w : World) : Prop :=
  ∃ X, IsA X d f ∧ X.At w ∧ Below w0.heap.size w0 w ∧ (∀ k, X.has k → w0.heap.size ≤ k ∧ k ≠ rb ∧ k ≠ ob) ∧ RefR w rb h ∧ w0.heap.size ≤ rb ∧ rb ≠ ob ∧ w0.heap.size ≤ ob ∧ RowAt w ob 4 (opV o)
/-- Both. -/
def PA (IsA : Thg → Nat → (Nat → Nat) → Prop) (w0 : World) (d rb : Nat) (f : Nat → Nat) (w : World) : Prop :=
  ∃ X, IsA X d f ∧ X.At w ∧ Below w0.heap.size w0 w ∧ (∀ k, X.has k → w0.heap.size ≤ k ∧ k ≠ rb) ∧ RefR w rb f ∧ w0.heap.size ≤ rb
section
variable {IsA : Thg → Nat → (Nat → Nat) → Prop} (ok : AreasOk IsA) {w0 w w' : World} {d rb ob : Nat} {f h : Nat → Nat} {o : OpA}
theorem PA.bel (H : PA IsA w0 d rb f w) : Below w0.heap.size w0 w := by
  obtain ⟨X, _, _, h, _⟩ := H
  exact h
theorem PA.later (H : PA IsA w0 d rb f w) (hb : Below w.heap.size w w') : PA IsA w0 d rb f w' := by
  obtain ⟨X, h1, h2, h3, h4, h5, h6⟩ := H
  exact ⟨X, h1, X.later h2 hb, h3.trans (hb.mono h3.size), h4, h5.later hb, h6⟩
theorem PO.later (H : PO IsA w0 d rb f h ob o w) (hb : Below w.heap.size w w') : PO IsA w0 d rb f h ob o w' := by
  obtain ⟨X, h1, h2, h3, h4, h5, h6, h7, h8, h9⟩ := H
  exact ⟨X, h1, X.later h2 hb, h3.trans (hb.mono h3.size), h4, h5.later hb, h6, h7, h8, h9.later hb⟩
theorem PA.box (H : PA IsA w0 d rb f w) (o : OpA) (T : TypeId) : PO IsA w0 d rb f f w.heap.size o (w.alloc (.cells #[.int .i64 o.kind, .int .i64 o.page, .int .i64 o.count, .int .u8 o.rights] T)) := by
  obtain ⟨X, h1, h2, h3, h4, h5, h6⟩ := H
  have hb : Below w.heap.size w (w.alloc (.cells #[.int .i64 o.kind, .int .i64 o.page, .int .i64 o.count, .int .u8 o.rights] T)) := (Below.refl _ _).alloc (Nat.le_refl _) _
  have hr := h5.lt
  refine ⟨X, h1, X.later h2 hb, h3.trans (hb.mono h3.size), fun k hk => ?_, h5.later hb, h6, by omega, h3.size, RowAt.new w _ _ _ _ fun i hi => by
    rcases (show i = 0 ∨ i = 1 ∨ i = 2 ∨ i = 3 by omega) with rfl | rfl | rfl | rfl <;> rfl⟩
  have := X.lt w h2 k hk
  have := h4 k hk
  omega
theorem PO.out (H : PO IsA w0 d rb f f ob o w) : PA IsA w0 d rb f w := by
  obtain ⟨X, h1, h2, h3, h4, h5, h6, _⟩ := H
  exact ⟨X, h1, h2, h3, fun k hk => ⟨(h4 k hk).1, (h4 k hk).2.1⟩, h5, h6⟩
theorem PO.op (H : PO IsA w0 d rb f h ob o w) : w.cell? ⟨ob, 0, none⟩ = some (.int .i64 o.kind) ∧ w.cell? ⟨ob, 1, none⟩ = some (.int .i64 o.page) ∧ w.cell? ⟨ob, 2, none⟩ = some (.int .i64 o.count) ∧ w.cell? ⟨ob, 3, none⟩ = some (.int .u8 o.rights) := by
  obtain ⟨X, _, _, _, _, _, _, _, _, R⟩ := H
  exact ⟨R.cell 0 (by decide), R.cell 1 (by decide), R.cell 2 (by decide), R.cell 3 (by decide)⟩
theorem PO.turn {X Y : Thg} {g : Nat → Nat} (h3 : Below w0.heap.size w0 w) (h4 : ∀ k, X.has k → w0.heap.size ≤ k ∧ k ≠ rb ∧ k ≠ ob) (h5 : RefR w rb h) (h6 : w0.heap.size ≤ rb) (h7 : rb ≠ ob) (h8 : w0.heap.size ≤ ob) (h9 : RowAt w ob 4 (opV o))
    (hY : IsA Y d g) (hT : TTurn w X w' Y) : PO IsA w0 d rb g h ob o w' := by
  have l1 := h5.lt
  have l2 := h9.lt
  refine ⟨Y, hY, hT.at', hT.only.below h3 h3.size (fun k hk => (h4 k hk).1), fun k hk => ?_, h5.only hT.only (fun hk => (h4 _ hk).2.1 rfl), h6, h7, h8, h9.only hT.only (fun hk => (h4 _ hk).2.2 rfl)⟩
  rcases hT.new k hk with h | h
  · exact h4 k h
  · have := h3.size
    omega
/-- The document's turn. -/
theorem PO.turnR {g : Nat → Nat} (H : PO IsA w0 d rb f h ob o w) (hR : RefR w' rb g) (ho : Only (fun k => k = rb) w w') : PO IsA w0 d rb f g ob o w' := by
  obtain ⟨X, h1, h2, h3, h4, h5, h6, h7, h8, h9⟩ := H
  exact ⟨X, h1, X.only _ _ _ h2 ho (fun k hk e => (h4 k hk).2.1 e), ho.below h3 h3.size (fun k hk => by omega), h4, hR, h6, h7, h8, h9.only ho (fun e => h7 e.symm)⟩
include ok in
theorem mapP (H : PO IsA w0 d rb f h ob o w) (p c : Int) (r : Nat) (hr : Okp p r) : Calls Try.prog 11 #[.pointer (some ⟨d, 0, none⟩), .int .i64 p, .int .i64 c, .int .u8 r] w fun e w' => e = .returned (.int .i64 (mapE f p c r)) ∧ PO IsA w0 d rb (mapA f p c r) h ob o w' := by
  obtain ⟨X, h1, h2, h3, h4, h5, h6, h7, h8, h9⟩ := H
  exact (ok.map p c r hr h1 h2).mono fun _ _ ⟨Y, e, hY, hT⟩ => ⟨e, PO.turn h3 h4 h5 h6 h7 h8 h9 hY hT⟩
theorem mapR (H : PO IsA w0 d rb f h ob o w) (p c : Int) (r : Nat) : Calls Try.prog 12 #[.pointer (some ⟨rb, 0, none⟩), .int .i64 p, .int .i64 c, .int .u8 r] w fun e w' => e = .returned (.int .i64 (mapE h p c r)) ∧ PO IsA w0 d rb f (mapA h p c r) ob o w' := by
  have h5 := H
  obtain ⟨X, _, _, _, _, R, _⟩ := h5
  exact (rmap_any R p c r).mono fun _ _ ⟨e, hR, ho⟩ => ⟨e, H.turnR hR ho⟩
include ok in
theorem unmP (H : PO IsA w0 d rb f h ob o w) (p c : Int) (hp : LeI p) : Calls Try.prog 13 #[.pointer (some ⟨d, 0, none⟩), .int .i64 p, .int .i64 c] w fun e w' => e = .returned (.int .i64 (unmE f p c)) ∧ PO IsA w0 d rb (unmA f p c) h ob o w' := by
  obtain ⟨X, h1, h2, h3, h4, h5, h6, h7, h8, h9⟩ := H
  exact (ok.unmap p c hp h1 h2).mono fun _ _ ⟨Y, e, hY, hT⟩ => ⟨e, PO.turn h3 h4 h5 h6 h7 h8 h9 hY hT⟩
theorem unmR (H : PO IsA w0 d rb f h ob o w) (p c : Int) : Calls Try.prog 14 #[.pointer (some ⟨rb, 0, none⟩), .int .i64 p, .int .i64 c] w fun e w' => e = .returned (.int .i64 (unmE h p c)) ∧ PO IsA w0 d rb f (unmA h p c) ob o w' := by
  have h5 := H
  obtain ⟨X, _, _, _, _, R, _⟩ := h5
  exact (runm_any R p c).mono fun _ _ ⟨e, hR, ho⟩ => ⟨e, H.turnR hR ho⟩
include ok in
theorem proP (H : PO IsA w0 d rb f h ob o w) (p c : Int) (r : Nat) (hr : Okp p r) : Calls Try.prog 15 #[.pointer (some ⟨d, 0, none⟩), .int .i64 p, .int .i64 c, .int .u8 r] w fun e w' => e = .returned (.int .i64 (proE f p c r)) ∧ PO IsA w0 d rb (proA f p c r) h ob o w' := by
  obtain ⟨X, h1, h2, h3, h4, h5, h6, h7, h8, h9⟩ := H
  exact (ok.protect p c r hr h1 h2).mono fun _ _ ⟨Y, e, hY, hT⟩ => ⟨e, PO.turn h3 h4 h5 h6 h7 h8 h9 hY hT⟩
theorem proR (H : PO IsA w0 d rb f h ob o w) (p c : Int) (r : Nat) : Calls Try.prog 16 #[.pointer (some ⟨rb, 0, none⟩), .int .i64 p, .int .i64 c, .int .u8 r] w fun e w' => e = .returned (.int .i64 (proE h p c r)) ∧ PO IsA w0 d rb f (proA h p c r) ob o w' := by
  have h5 := H
  obtain ⟨X, _, _, _, _, R, _⟩ := h5
  exact (rpro_any R p c r).mono fun _ _ ⟨e, hR, ho⟩ => ⟨e, H.turnR hR ho⟩
include ok in
theorem mpdP (H : PO IsA w0 d rb f h ob o w) (p c : Int) (hp : LeI p) : Calls Try.prog 17 #[.pointer (some ⟨d, 0, none⟩), .int .i64 p, .int .i64 c] w fun e w' => e = .returned (.int .i64 (mpdE f p c)) ∧ PO IsA w0 d rb f h ob o w' := by
  have h5 := H
  obtain ⟨X, h1, h2, _⟩ := h5
  exact (ok.mapped p c hp h1 h2).mono fun _ _ ⟨e, hb⟩ => ⟨e, H.later hb⟩
theorem mpdR (H : PO IsA w0 d rb f h ob o w) (p c : Int) : Calls Try.prog 18 #[.pointer (some ⟨rb, 0, none⟩), .int .i64 p, .int .i64 c] w fun e w' => e = .returned (.int .i64 (mpdE h p c)) ∧ PO IsA w0 d rb f h ob o w' := by
  have h5 := H
  obtain ⟨X, _, _, _, _, R, _⟩ := h5
  exact (rmpd_any R p c).mono fun _ _ ⟨e, hb⟩ => ⟨e, H.later hb⟩
include ok in
theorem rgtP (H : PO IsA w0 d rb f h ob o w) (p : Int) : Calls Try.prog 19 #[.pointer (some ⟨d, 0, none⟩), .int .i64 p] w fun e w' => e = .returned (.tuple #[.int .u8 (rgV f p), .bool (rgV f p != 0)]) ∧ PO IsA w0 d rb f h ob o w' := by
  have h5 := H
  obtain ⟨X, h1, h2, _⟩ := h5
  exact (ok.rights p h1 h2).mono fun _ _ ⟨e, hb⟩ => ⟨e, H.later hb⟩
theorem rgtR (H : PO IsA w0 d rb f h ob o w) (p : Int) : Calls Try.prog 20 #[.pointer (some ⟨rb, 0, none⟩), .int .i64 p] w fun e w' => e = .returned (.tuple #[.int .u8 (rgV h p), .bool (rgV h p != 0)]) ∧ PO IsA w0 d rb f h ob o w' := by
  have h5 := H
  obtain ⟨X, _, _, _, _, R, _⟩ := h5
  exact (rrights_any R p).mono fun _ _ ⟨e, hb⟩ => ⟨e, H.later hb⟩
/-- The copy stands beside the old ones: these may be spoilt. -/
def PC (IsA : Thg → Nat → (Nat → Nat) → Prop) (w0 : World) (d d2 rb : Nat) (f g : Nat → Nat) (ob : Nat) (o : OpA) (w : World) : Prop :=
  ∃ X, IsA X d g ∧ X.At w ∧ (∀ k, X.has k → w0.heap.size ≤ k) ∧ ∃ Y, IsA Y d2 f ∧ Y.At w ∧ Below w0.heap.size w0 w ∧ (∀ k, Y.has k → w0.heap.size ≤ k ∧ k ≠ rb ∧ k ≠ ob) ∧ RefR w rb f ∧ w0.heap.size ≤ rb ∧ rb ≠ ob ∧ w0.heap.size ≤ ob ∧ RowAt w ob 4 (opV o) ∧ (∀ k, X.has k → ¬ Y.has k ∧ k ≠ rb ∧ k ≠ ob)
theorem PC.op {d2 : Nat} {g : Nat → Nat} (H : PC IsA w0 d d2 rb f g ob o w) : w.cell? ⟨ob, 0, none⟩ = some (.int .i64 o.kind) ∧ w.cell? ⟨ob, 1, none⟩ = some (.int .i64 o.page) ∧ w.cell? ⟨ob, 2, none⟩ = some (.int .i64 o.count) ∧ w.cell? ⟨ob, 3, none⟩ = some (.int .u8 o.rights) := by
  obtain ⟨_, _, _, _, _, _, _, _, _, _, _, _, _, R, _⟩ := H
  exact ⟨R.cell 0 (by decide), R.cell 1 (by decide), R.cell 2 (by decide), R.cell 3 (by decide)⟩
theorem PC.out {d2 : Nat} {g : Nat → Nat} (H : PC IsA w0 d d2 rb f g ob o w) : PA IsA w0 d2 rb f w := by
  obtain ⟨_, _, _, _, Y, h1, h2, h3, h4, h5, h6, _⟩ := H
  exact ⟨Y, h1, h2, h3, fun k hk => ⟨(h4 k hk).1, (h4 k hk).2.1⟩, h5, h6⟩
include ok in
theorem cpyP (H : PO IsA w0 d rb f f ob o w) : Calls Try.prog 21 #[.pointer (some ⟨d, 0, none⟩)] w fun e w' => ∃ d2, e = .returned (.pointer (some ⟨d2, 0, none⟩)) ∧ PC IsA w0 d d2 rb f f ob o w' := by
  obtain ⟨X, h1, h2, h3, h4, h5, h6, h7, h8, h9⟩ := H
  refine (ok.copy h1 h2).mono ?_
  rintro e w1 ⟨d2, Y, rfl, hY, hT⟩
  have hb : Below w.heap.size w w1 := ⟨hT.only.os, hT.only.tape, hT.only.output, hT.only.size, fun k hk => hT.only.block k hk (fun h => h)⟩
  have hn : ∀ k, Y.has k → w.heap.size ≤ k := fun k hk => (hT.new k hk).elim (fun h => False.elim h) id
  have l1 := h5.lt
  have l2 := h9.lt
  have l3 := h3.size
  refine ⟨d2, rfl, X, h1, X.later h2 hb, fun k hk => (h4 k hk).1, Y, hY, hT.at', h3.trans (hb.mono h3.size), fun k hk => ?_, h5.later hb, h6, h7, h8, h9.later hb, fun k hk => ⟨fun h => ?_, (h4 k hk).2⟩⟩
  · have := hn k hk; omega
  · have := hn k h; have := X.lt w h2 k hk; omega
theorem PC.turn {d2 : Nat} {g2 : Nat → Nat} {X X2 : Thg} {Y : Thg} (hlo : ∀ k, X.has k → w0.heap.size ≤ k) (h1 : IsA Y d2 f) (h2 : Y.At w) (h3 : Below w0.heap.size w0 w) (h4 : ∀ k, Y.has k → w0.heap.size ≤ k ∧ k ≠ rb ∧ k ≠ ob) (h5 : RefR w rb f) (h6 : w0.heap.size ≤ rb) (h7 : rb ≠ ob) (h8 : w0.heap.size ≤ ob) (h9 : RowAt w ob 4 (opV o)) (h10 : ∀ k, X.has k → ¬ Y.has k ∧ k ≠ rb ∧ k ≠ ob)
    (hX : IsA X2 d g2) (hT : TTurn w X w' X2) : PC IsA w0 d d2 rb f g2 ob o w' := by
  have l1 := h5.lt
  have l2 := h9.lt
  have l3 := h3.size
  refine ⟨X2, hX, hT.at', fun k hk => (hT.new k hk).elim (hlo k) (fun h => by omega), Y, h1, Y.only _ _ _ h2 hT.only (fun k hk h => (h10 k h).1 hk), hT.only.below h3 h3.size hlo, h4, h5.only hT.only (fun h => (h10 _ h).2.1 rfl), h6, h7, h8, h9.only hT.only (fun h => (h10 _ h).2.2 rfl), fun k hk => ?_⟩
  rcases hT.new k hk with h | h
  · exact h10 k h
  · refine ⟨fun hy => ?_, by omega, by omega⟩
    have := Y.lt w h2 k hy
    omega
include ok in
theorem unmC {d2 : Nat} {g : Nat → Nat} (H : PC IsA w0 d d2 rb f g ob o w) (p c : Int) (hp : LeI p) : Calls Try.prog 13 #[.pointer (some ⟨d, 0, none⟩), .int .i64 p, .int .i64 c] w fun e w' => e = .returned (.int .i64 (unmE g p c)) ∧ ∃ g2, PC IsA w0 d d2 rb f g2 ob o w' := by
  obtain ⟨X, hX, hA, hlo, Y, h1, h2, h3, h4, h5, h6, h7, h8, h9, h10⟩ := H
  exact (ok.unmap p c hp hX hA).mono fun _ _ ⟨X2, e, hX2, hT⟩ => ⟨e, _, PC.turn hlo h1 h2 h3 h4 h5 h6 h7 h8 h9 h10 hX2 hT⟩
include ok in
theorem mapC {d2 : Nat} {g : Nat → Nat} (H : PC IsA w0 d d2 rb f g ob o w) (p c r : Int) (k : Nat) (e : r = k) (hr : Okp p k) : Calls Try.prog 11 #[.pointer (some ⟨d, 0, none⟩), .int .i64 p, .int .i64 c, .int .u8 r] w fun e w' => e = .returned (.int .i64 (mapE g p c k)) ∧ ∃ g2, PC IsA w0 d d2 rb f g2 ob o w' := by
  subst e
  obtain ⟨X, hX, hA, hlo, Y, h1, h2, h3, h4, h5, h6, h7, h8, h9, h10⟩ := H
  exact (ok.map p c k hr hX hA).mono fun _ _ ⟨X2, e, hX2, hT⟩ => ⟨e, _, PC.turn hlo h1 h2 h3 h4 h5 h6 h7 h8 h9 h10 hX2 hT⟩
include ok in
theorem sameP (H : PA IsA w0 d rb f w) : Calls Try.prog 22 #[.pointer (some ⟨d, 0, none⟩), .pointer (some ⟨rb, 0, none⟩)] w fun e w' => e = .returned (.bool true) ∧ PA IsA w0 d rb f w' := by
  have h5 := H
  obtain ⟨X, h1, h2, _, _, R, _⟩ := h5
  exact (callsIn_wide.1 (same_in ok 8 (Nat.le_refl _) h1 h2 R)).mono fun _ _ ⟨e, hb⟩ => ⟨e, H.later hb⟩
end
end Go.Proofs.Ythnkbipdlepbaaa
