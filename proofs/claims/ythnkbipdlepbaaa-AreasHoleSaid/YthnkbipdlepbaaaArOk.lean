/-
  What the laws of stage 13 want of the landed areas, whatever way they lie.
-/
import Derived.Test.YthnkbipdlepbaaaArDoc
import Derived.Test.YthnkbipdlepbaaaArLe
import Derived.Test.YthnkbipdlepbaaaIter
namespace Go.Proofs.Ythnkbipdlepbaaa
open Go.RowKit Go.Shelf Go

abbrev TSeq : TypeId := 44
/-- Runs tells an iterator over the list. -/
def TellP (X : Thg) (L : Rns) (w : World) (e : Ending) (w' : World) : Prop :=
  ∃ g lb own, e = .returned (.func (.func g) #[] lb) ∧ Below w.heap.size w w' ∧ (∀ args W, (callFunc g args).run Try.prog W = .ok (.enter g args) W) ∧
    (∀ W, (binOp .eql TSeq (.func (.func g) #[] lb) .nilFunc).run Try.prog W = .ok (.bool false) W) ∧ (∀ k, own k → (X.has k ∨ w.heap.size ≤ k) ∧ k < w'.heap.size) ∧
    Tells Try.prog g lb (fun x => #[runV x]) L own w'
abbrev rns (f : Nat → Nat) : Rns := runsTo f 1024
structure AreasOk (IsA : Thg → Nat → (Nat → Nat) → Prop) : Prop where
  inv : ∀ {X d f}, IsA X d f → (∀ i, f i ≤ 3) ∧ (∀ i, 1024 ≤ i → f i = 0) ∧ (rns f).length ≤ 32
  new : ∀ (w : World), Calls Try.prog 9 #[] w fun e w' => ∃ d Y, e = .returned (.pointer (some ⟨d, 0, none⟩)) ∧ IsA Y d (fun _ => 0) ∧ TTurn w Thg.no w' Y
  map : ∀ {X d f w} (p c : Int) (r : Nat), Okp p r → IsA X d f → X.At w → Calls Try.prog 11 #[.pointer (some ⟨d, 0, none⟩), .int .i64 p, .int .i64 c, .int .u8 r] w fun e w' =>
    ∃ Y, e = .returned (.int .i64 (mapE f p c r)) ∧ IsA Y d (mapA f p c r) ∧ TTurn w X w' Y
  unmap : ∀ {X d f w} (p c : Int), LeI p → IsA X d f → X.At w → Calls Try.prog 13 #[.pointer (some ⟨d, 0, none⟩), .int .i64 p, .int .i64 c] w fun e w' =>
    ∃ Y, e = .returned (.int .i64 (unmE f p c)) ∧ IsA Y d (unmA f p c) ∧ TTurn w X w' Y
  protect : ∀ {X d f w} (p c : Int) (r : Nat), Okp p r → IsA X d f → X.At w → Calls Try.prog 15 #[.pointer (some ⟨d, 0, none⟩), .int .i64 p, .int .i64 c, .int .u8 r] w fun e w' =>
    ∃ Y, e = .returned (.int .i64 (proE f p c r)) ∧ IsA Y d (proA f p c r) ∧ TTurn w X w' Y
  mapped : ∀ {X d f w} (p c : Int), LeI p → IsA X d f → X.At w → Calls Try.prog 17 #[.pointer (some ⟨d, 0, none⟩), .int .i64 p, .int .i64 c] w fun e w' =>
    e = .returned (.int .i64 (mpdE f p c)) ∧ Below w.heap.size w w'
  rights : ∀ {X d f w} (p : Int), IsA X d f → X.At w → Calls Try.prog 19 #[.pointer (some ⟨d, 0, none⟩), .int .i64 p] w fun e w' =>
    e = .returned (.tuple #[.int .u8 (rgV f p), .bool (rgV f p != 0)]) ∧ Below w.heap.size w w'
  len : ∀ {X d f w}, IsA X d f → X.At w → Calls Try.prog 24 #[.pointer (some ⟨d, 0, none⟩)] w fun e w' => e = .returned (.int .i64 (rns f).length) ∧ Below w.heap.size w w'
  copy : ∀ {X d f w}, IsA X d f → X.At w → Calls Try.prog 21 #[.pointer (some ⟨d, 0, none⟩)] w fun e w' =>
    ∃ d2 Y, e = .returned (.pointer (some ⟨d2, 0, none⟩)) ∧ IsA Y d2 f ∧ TTurn w Thg.no w' Y
  runs : ∀ {X d f w}, IsA X d f → X.At w → Calls Try.prog 23 #[.pointer (some ⟨d, 0, none⟩)] w (TellP X (rns f) w)

/-- Areas that lie from block B on, and turn nothing else. -/
def AK (IsA : Thg → Nat → (Nat → Nat) → Prop) (w0 : World) (d : Nat) (f : Nat → Nat) (w : World) : Prop := ∃ X, IsA X d f ∧ X.At w ∧ Below w0.heap.size w0 w ∧ ∀ k, X.has k → w0.heap.size ≤ k
section
variable {IsA : Thg → Nat → (Nat → Nat) → Prop} (ok : AreasOk IsA) {w0 w w' : World} {d : Nat} {f : Nat → Nat}
theorem AK.bel (h : AK IsA w0 d f w) : Below w0.heap.size w0 w := by
  obtain ⟨X, _, _, h, _⟩ := h
  exact h
theorem AK.le (h : AK IsA w0 d f w) : w0.heap.size ≤ w.heap.size := h.bel.size
theorem AK.later (h : AK IsA w0 d f w) (hb : Below w.heap.size w w') : AK IsA w0 d f w' := by
  obtain ⟨X, h1, h2, h3, h4⟩ := h
  exact ⟨X, h1, X.later h2 hb, h3.trans (hb.mono h3.size), h4⟩
theorem AK.turn {X Y : Thg} {g : Nat → Nat} (h3 : Below w0.heap.size w0 w) (h4 : ∀ k, X.has k → w0.heap.size ≤ k) (hY : IsA Y d g) (hT : TTurn w X w' Y) : AK IsA w0 d g w' :=
  ⟨Y, hY, hT.at', hT.only.below h3 h3.size h4, fun k hk => (hT.new k hk).elim (h4 k) (fun h => Nat.le_trans h3.size h)⟩
include ok
theorem AK.inv (h : AK IsA w0 d f w) : (∀ i, f i ≤ 3) ∧ (∀ i, 1024 ≤ i → f i = 0) ∧ (rns f).length ≤ 32 := by
  obtain ⟨X, h1, _⟩ := h
  exact ok.inv h1
theorem new_ak (w : World) : Calls Try.prog 9 #[] w fun e w' => ∃ d, e = .returned (.pointer (some ⟨d, 0, none⟩)) ∧ AK IsA w d (fun _ => 0) w' := by
  refine (ok.new w).mono ?_
  rintro e w1 ⟨d, Y, rfl, hY, hT⟩
  exact ⟨d, rfl, AK.turn (X := Thg.no) (Below.refl _ _) (fun k hk => False.elim hk) hY hT⟩
theorem map_ak (h : AK IsA w0 d f w) (p c : Int) (r : Nat) (hr : Okp p r) : Calls Try.prog 11 #[.pointer (some ⟨d, 0, none⟩), .int .i64 p, .int .i64 c, .int .u8 r] w fun e w' =>
    e = .returned (.int .i64 (mapE f p c r)) ∧ AK IsA w0 d (mapA f p c r) w' := by
  obtain ⟨X, h1, h2, h3, h4⟩ := h
  exact (ok.map p c r hr h1 h2).mono fun _ _ ⟨Y, e, hY, hT⟩ => ⟨e, AK.turn h3 h4 hY hT⟩
theorem unmap_ak (h : AK IsA w0 d f w) (p c : Int) (hp : LeI p) : Calls Try.prog 13 #[.pointer (some ⟨d, 0, none⟩), .int .i64 p, .int .i64 c] w fun e w' =>
    e = .returned (.int .i64 (unmE f p c)) ∧ AK IsA w0 d (unmA f p c) w' := by
  obtain ⟨X, h1, h2, h3, h4⟩ := h
  exact (ok.unmap p c hp h1 h2).mono fun _ _ ⟨Y, e, hY, hT⟩ => ⟨e, AK.turn h3 h4 hY hT⟩
theorem protect_ak (h : AK IsA w0 d f w) (p c : Int) (r : Nat) (hr : Okp p r) : Calls Try.prog 15 #[.pointer (some ⟨d, 0, none⟩), .int .i64 p, .int .i64 c, .int .u8 r] w fun e w' =>
    e = .returned (.int .i64 (proE f p c r)) ∧ AK IsA w0 d (proA f p c r) w' := by
  obtain ⟨X, h1, h2, h3, h4⟩ := h
  exact (ok.protect p c r hr h1 h2).mono fun _ _ ⟨Y, e, hY, hT⟩ => ⟨e, AK.turn h3 h4 hY hT⟩
/-- With rights written as a number. -/
theorem map_akI (h : AK IsA w0 d f w) (p c r : Int) (k : Nat) (e : r = k) (hr : Okp p k) : Calls Try.prog 11 #[.pointer (some ⟨d, 0, none⟩), .int .i64 p, .int .i64 c, .int .u8 r] w fun e w' =>
    e = .returned (.int .i64 (mapE f p c k)) ∧ AK IsA w0 d (mapA f p c k) w' := by
  subst e
  exact map_ak ok h p c k hr
theorem protect_akI (h : AK IsA w0 d f w) (p c r : Int) (k : Nat) (e : r = k) (hr : Okp p k) : Calls Try.prog 15 #[.pointer (some ⟨d, 0, none⟩), .int .i64 p, .int .i64 c, .int .u8 r] w fun e w' =>
    e = .returned (.int .i64 (proE f p c k)) ∧ AK IsA w0 d (proA f p c k) w' := by
  subst e
  exact protect_ak ok h p c k hr
theorem mapped_ak (h : AK IsA w0 d f w) (p c : Int) (hp : LeI p) : Calls Try.prog 17 #[.pointer (some ⟨d, 0, none⟩), .int .i64 p, .int .i64 c] w fun e w' =>
    e = .returned (.int .i64 (mpdE f p c)) ∧ Below w.heap.size w w' := by
  obtain ⟨X, h1, h2, _⟩ := h
  exact ok.mapped p c hp h1 h2
theorem rights_ak (h : AK IsA w0 d f w) (p : Int) : Calls Try.prog 19 #[.pointer (some ⟨d, 0, none⟩), .int .i64 p] w fun e w' =>
    e = .returned (.tuple #[.int .u8 (rgV f p), .bool (rgV f p != 0)]) ∧ Below w.heap.size w w' := by
  obtain ⟨X, h1, h2, _⟩ := h
  exact ok.rights p h1 h2
theorem len_ak (h : AK IsA w0 d f w) : Calls Try.prog 24 #[.pointer (some ⟨d, 0, none⟩)] w fun e w' => e = .returned (.int .i64 (rns f).length) ∧ Below w.heap.size w w' := by
  obtain ⟨X, h1, h2, _⟩ := h
  exact ok.len h1 h2
end
/-! ### The known case -/
def zF : Nat → Nat := fun _ => 0
theorem kn1 : mapE (fun _ => 0) 0 4 3 = 0 ∧ mapE (mapA (fun _ => 0) 0 4 3) 4 2 3 = 0 ∧ (rns (mapA (mapA (fun _ => 0) 0 4 3) 4 2 3)).length = 1 ∧ proE (mapA (mapA (fun _ => 0) 0 4 3) 4 2 3) 1 2 1 = 0 := by decide +kernel
theorem kn2 : rgV (proA (mapA (mapA (fun _ => 0) 0 4 3) 4 2 3) 1 2 1) 2 = 1 ∧ rgV (proA (mapA (mapA (fun _ => 0) 0 4 3) 4 2 3) 1 2 1) 6 = 0 ∧ (rns (proA (mapA (mapA (fun _ => 0) 0 4 3) 4 2 3) 1 2 1)).length = 3 ∧ mapE (proA (mapA (mapA (fun _ => 0) 0 4 3) 4 2 3) 1 2 1) 0 1 1 = 8 := by decide +kernel
end Go.Proofs.Ythnkbipdlepbaaa
