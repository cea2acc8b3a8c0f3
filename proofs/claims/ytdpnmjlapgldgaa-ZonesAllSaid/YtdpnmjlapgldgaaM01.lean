/-
  Texts that this claim builds on, merged.
-/
import Derived.Test.YtdpnmjlapgldgaaRows
import Derived.WalkKit
import Derived.ProofKit
import Derived.OpenShut
import Derived.ShutString
import Derived.ChangeOld
import Derived.Below
import Derived.DataShut
import Derived.Deep.WholeRow
import Derived.Laws.CopyRow
import Derived.Deep.MidRow
import Derived.Laws.CopyOwn
import Derived.Deep.QuietTactic
import Derived.BigQuiet
import Derived.Lib.Hide
import Derived.WalkSpells
import Derived.WalkLawsBesides
import Derived.Deep.RegionWith
import Derived.Deep.RegionHeld3
import Derived.StillTailTactics
import Derived.Laws.StructEq
import Derived.Laws.AppendOwn
namespace Go.Proofs.Ytdpnmjlapgldgaa
/-! A law's row out of its walk: the arguments, whatever they are, read behind the call as before it, because below the old heap's size nothing has turned. Of no program. -/
section
open Go.ChangeShapes Go.WideShapes Go.ChangeAt Go.RowKit

theorem trodAll_below {H : Type} {enc : TypeId × Value → H} {P : Program} (hl : laidOutB P = true) {W W' : World} (hb : Below W.heap.size W W') :
    ∀ (ts : List TypeId) (vs : List Value) (ds : List (DataW H)) (ps : List MemPlace), (∀ t ∈ ts, P.readableRec t = true ∧ t < P.types.size) → (∀ x ∈ ps, x.block < W.heap.size) →
      DataW.TrodAll enc P W 0 (fun _ => true) true ts vs ds ps → DataW.TrodAll enc P W' 0 (fun b => decide (b < W.heap.size)) true ts vs ds ps
  | [], [], [], _, _, _, h => h
  | t :: ts, v :: vs, d :: ds, _, hr, hlt, ⟨p, q, h1, h2, e⟩ => by
    subst e
    exact ⟨p, q, Below.trod hl (hr t (by simp)).1 (hr t (by simp)).2 h1 hb (fun x hx => hlt x (by simp [hx])),
      trodAll_below hl hb ts vs ds q (fun u hu => hr u (by simp [hu])) (fun x hx => hlt x (by simp [hx])) h2, rfl⟩
  | [], _ :: _, _, _, _, _, h => h.elim
  | [], [], _ :: _, _, _, _, h => h.elim
  | _ :: _, [], _, _, _, _, h => h.elim
  | _ :: _, _ :: _, [], _, _, _, h => h.elim

theorem trodAll_length {H : Type} {enc : TypeId × Value → H} {P : Program} {W : World} {base : Nat} {sp : Nat → Bool} {held : Bool} :
    ∀ (ts : List TypeId) (vs : List Value) (ds : List (DataW H)) (ps : List MemPlace), DataW.TrodAll enc P W base sp held ts vs ds ps → ds.length = ts.length
  | [], [], [], _, _ => rfl
  | _ :: ts, _ :: vs, _ :: ds, _, ⟨_, q, _, h2, _⟩ => by simp [trodAll_length ts vs ds q h2]
  | [], _ :: _, _, _, h => h.elim
  | [], [], _ :: _, _, h => h.elim
  | _ :: _, [], _, _, h => h.elim
  | _ :: _, _ :: _, [], _, h => h.elim

/-- What a law's walk owes, where the row lists no variable: true, and below the old heap's size nothing has turned. -/
def LawP (C : Checked) (k : FuncId) (fn : Func) : Prop :=
  ∀ {H : Type} {enc : TypeId × Value → H} (W : World) (base : Nat) (args : Array Value) (ds : List (DataW H)) (ps : List MemPlace),
    (∀ (j : Nat) t v, fn.params[j]? = some t → args[j]? = some v → Value.okWide C.prog W .any base t v) →
    DataW.TrodAll enc C.prog W 0 (fun _ => true) true fn.params.toList args.toList ds ps →
    Calls C.prog k args W fun e W' => e = .returned (.bool true) ∧ Below W.heap.size W W'

theorem law_plain {C : Checked} {k : FuncId} {fn : Func} {s : ChangeSpec} {tb : TypeId}
    (own : ownKnob C.prog.godebug = none) (laidOut : laidOutB C.prog = true) (hk : C.prog.inits.idxOf? k = none) (hfn : C.prog.funcs[k]? = some fn) (hvars : s.vars = [])
    (hparams : ∀ t ∈ fn.params.toList, C.prog.readableRec t = true ∧ t < C.prog.types.size) (hres : fn.resultTypes = #[tb]) (hbool : C.prog.underlying tb = some .bool)
    (hspec : ∀ (H : Type) (ds : List (DataW H)), ds.length = fn.params.toList.length → s.fn H ds = { results := [.lit (.bool true)], args := ds })
    (walk : LawP C k fn) (os : Os) (started : os.Started) (H : Type) (enc : TypeId × Value → H)
    (witness : ∃ (w : World) (tape : Tape) (i : Input), w.os = os ∧ (w.forCall tape i).Shaped C.prog ∧ i.vars = [] ∧ Input.okWide C.prog (w.forCall tape i) .any w.heap.size k i ∧
      s.pre6 enc C.prog fn [] false (w.forCall tape i).memory i.args ∧ ({} : Assume).holds C.prog (lone (Frame.enter C.prog k i.args .normal) [] (w.forCall tape i))) :
    ReturnsInHanded {} C os k .any (s.pre6 enc C.prog fn [] false) (s.post enc C.prog fn false true false false) := by
  refine returnsInHanded_of_change (C := C) own started hk hfn witness ?_
  intro W base args ds gs before hval hW _ _
  have hW' := hW
  obtain ⟨p, q, hA, hV, rfl, hfz, hnd⟩ := hW
  rw [hvars] at hV
  obtain ⟨rfl, rfl⟩ : gs = [] ∧ q = [] := by
    cases gs with
    | nil => exact ⟨rfl, hV⟩
    | cons g r => exact absurd hV (by intro h; cases h)
  refine (walk W base args ds p hval hA).mono fun e W' ⟨he, bel⟩ => ?_
  subst he
  have hlen := trodAll_length _ _ _ _ hA
  have es := hspec H (ds ++ []) (by simpa using hlen)
  have hlt : ∀ x ∈ p, x.block < W.heap.size := fun x hx => by simpa using hW'.lt x (by simp [hx])
  refine ⟨_, rfl, ds, [], p ++ [], [], p, [], hW', ?_, ?_, ?_, bel.frame _, fun h => by cases h⟩
  · rw [es, hres]; exact trodAll_mk1 (shut_bool hbool true)
  · rw [es]
    have := trodAll_below laidOut bel _ _ _ _ hparams hlt hA
    simpa using this
  · rw [es, hvars]; rfl

theorem own : ownKnob Try.prog.godebug = none := by kernel_rfl
theorem laidOut : laidOutB Try.prog = true := by kernel_rfl
end
/-! The bounds of a number that comes in. Of no program. -/
section
open Go.RowKit Go

theorem in_u64 {n : Int} (h : (Lit.int .u64 n).wf = true) : ∃ x : Nat, n = x ∧ x < 18446744073709551616 := by
  have := (Lit.wf_int_iff .u64 n).1 h
  have h1 : IntKind.u64.min = 0 := by decide
  have h2 : IntKind.u64.max = 18446744073709551615 := by decide
  exact ⟨n.toNat, by omega, by omega⟩
theorem in_u8 {n : Int} (h : (Lit.int .u8 n).wf = true) : ∃ x : UInt8, n = x.toNat := by
  have := (Lit.wf_int_iff .u8 n).1 h
  have h1 : IntKind.u8.min = 0 := by decide
  have h2 : IntKind.u8.max = 255 := by decide
  refine ⟨UInt8.ofNat n.toNat, ?_⟩
  simp; omega
theorem in_i64 {n : Int} (h : (Lit.int .i64 n).wf = true) : -9223372036854775808 ≤ n ∧ n ≤ 9223372036854775807 := by
  have := (Lit.wf_int_iff .i64 n).1 h
  have h1 : IntKind.i64.min = -9223372036854775808 := by decide
  have h2 : IntKind.i64.max = 9223372036854775807 := by decide
  omega
end
/-! Ints that come in. Of no program that has ints. -/
section
open Go.ChangeShapes Go.WideShapes Go.ChangeAt Go.RowKit

theorem add_plain (b o i : Nat) : (⟨b, o, none⟩ : Addr).add i = ⟨b, o + i, none⟩ := by unfold Addr.add; split <;> simp_all
theorem cells3 : Try.prog.cellsOf 3 = 1 := by kernel_rfl
theorem head_of_take {l : List Value} {v : Value} (h : l.take 1 = [v]) : l[0]? = some v := by
  cases l with
  | nil => cases h
  | cons a r => simpa using h
theorem at_drop {cs : List Value} {o : Nat} {v : Value} (h : (cs.drop o).take 1 = [v]) : cs[o]? = some v := by
  have := head_of_take h
  simpa using this
section
variable {H : Type} {enc : TypeId × Value → H} {W : World} {fuel base : Nat} {sp : Nat → Bool} {held : Bool} {r : DataW H × List MemPlace} {cs : List Value}
theorem int_in (h : DataW.trod enc Try.prog W base sp held fuel 3 cs = some r) : ∃ z, cs = [.int .i64 z] ∧ -9223372036854775808 ≤ z ∧ z ≤ 9223372036854775807 := by
  obtain ⟨z, e, _, hw⟩ := DataW.trod_int Try.underlying3 h
  exact ⟨z, e, in_i64 hw⟩
end
section
variable {H : Type} {enc : TypeId × Value → H} {W : World} {base : Nat} {v : Value} {d : DataW H} {p : List MemPlace}
set_option maxRecDepth 100000 in
theorem int_arg (hv : Value.okWide Try.prog W .any base 3 v) (h : DataW.Trod enc Try.prog W 0 (fun _ => true) true 3 v d p) : ∃ z, v = .int .i64 z ∧ -9223372036854775808 ≤ z ∧ z ≤ 9223372036854775807 := by
  obtain ⟨z, rfl, _, _, hw⟩ := open_int Try.underlying3 hv h
  exact ⟨z, rfl, in_i64 hw⟩
set_option maxRecDepth 100000 in
theorem u64_arg (hv : Value.okWide Try.prog W .any base 133 v) (h : DataW.Trod enc Try.prog W 0 (fun _ => true) true 133 v d p) : ∃ z : Nat, v = .int .u64 z ∧ z < 18446744073709551616 := by
  obtain ⟨z, rfl, _, _, hw⟩ := open_int Try.underlying133 hv h
  obtain ⟨x, rfl, hx⟩ := in_u64 hw
  exact ⟨x, rfl, hx⟩
end
end
/-! Slices of arrays that lie in a block; clear on them. Of no program. -/
section
open Go.RowKit Go

theorem run_slice_to {P : Program} {t e : TypeId} {n s : Nat} (ht : P.underlying t = some (.array n e)) (hs : ∀ w, (sizeOf e).run P w = .ok s w) (c : Nat) (hc : c ≤ n) (W : World) (b o : Nat) :
    (Instr.sliceAt t (.pointer (some ⟨b, o, none⟩)) none (some (.int .i64 c)) none).run P W = .ok (.slice (some ⟨b, o, none⟩) c n) W := by
  have hl : P.arrayLen t = n := by simp [Program.arrayLen, ht]
  have he : P.elem t = e := by simp [Program.elem, ht]
  rw [run_sliceAt_array_h W t ⟨b, o, none⟩ (by rw [hl, he]; exact ht) .i64 c (by omega) (by rw [hl]; omega), he, hs, hl]
  simp [Result.andThen, slicedAt, Addr.add]

/-- The slice of an array from l on. -/
def fromV (b o n s l : Nat) : Value := .slice (some (if n = l then ⟨b, o, none⟩ else ⟨b, o + l * s, none⟩)) (n - l) (n - l)
theorem run_slice_from {P : Program} {t e : TypeId} {n s : Nat} (ht : P.underlying t = some (.array n e)) (hs : ∀ w, (sizeOf e).run P w = .ok s w) (l : Nat) (hl : l ≤ n) (W : World) (b o : Nat) :
    (Instr.sliceAt t (.pointer (some ⟨b, o, none⟩)) (some (.int .i64 l)) none none).run P W = .ok (fromV b o n s l) W := by
  have hn : P.arrayLen t = n := by simp [Program.arrayLen, ht]
  have he : P.elem t = e := by simp [Program.elem, ht]
  rw [run_sliceAt_array_l W t ⟨b, o, none⟩ (by rw [hn, he]; exact ht) .i64 l (by omega) (by rw [hn]; omega), he, hs, hn]
  simp only [Result.andThen, slicedAt, fromV, Int.toNat_natCast, Addr.add_lit]


/-- The array with noughts from lo to hi. -/
def wipe (B : Array Value) (lo hi : Nat) : Array Value := (B.toList.take lo ++ List.replicate (hi - lo) (Value.int .i64 0) ++ B.toList.drop hi).toArray
theorem wipe_self (B : Array Value) (lo : Nat) : wipe B lo lo = B := by simp [wipe]
theorem wipe_size (B : Array Value) (lo hi : Nat) (h : lo ≤ hi) (hh : hi ≤ B.size) : (wipe B lo hi).size = B.size := by simp [wipe]; omega
theorem wipe_get (B : Array Value) (lo hi i : Nat) (h : lo ≤ hi) (hh : hi ≤ B.size) : (wipe B lo hi)[i]? = if lo ≤ i ∧ i < hi then some (.int .i64 0) else B[i]? := by
  have e : (wipe B lo hi)[i]? = (B.toList.take lo ++ List.replicate (hi - lo) (Value.int .i64 0) ++ B.toList.drop hi)[i]? := by simp [wipe]
  rw [e]
  by_cases h1 : i < lo
  · rw [List.append_assoc, List.getElem?_append_left (by simp; omega), if_neg (by omega), List.getElem?_take_of_lt h1]; simp
  · by_cases h2 : i < hi
    · rw [List.getElem?_append_left (by simp; omega), List.getElem?_append_right (by simp; omega), if_pos (by omega), List.getElem?_replicate, if_pos (by simp; omega)]
    · rw [List.getElem?_append_right (by simp; omega), if_neg (by omega), List.getElem?_drop]
      have : (B.toList.take lo ++ List.replicate (hi - lo) (Value.int .i64 0)).length = hi := by simp; omega
      rw [this, show hi + (i - hi) = i by omega]; simp

theorem zeroCells_rep (s n : Nat) (hs : 0 < s) : Builtin.zeroCells (Array.replicate s (Value.int .i64 0)) n = Array.replicate (n * s) (Value.int .i64 0) := by
  apply Array.ext
  · simp [Builtin.zeroCells]
  · intro i h1 h2
    simp only [Builtin.zeroCells, Array.size_replicate, Array.getElem_map, Array.getElem_range, Array.getElem_replicate]
    rw [getElem!_pos _ _ (by simpa using Nat.mod_lt _ hs)]
    simp

theorem run_clear_from {P : Program} {ts e : TypeId} {s : Nat} {zv : Value} (ht : P.underlying ts = some (.slice e)) (hz : ∀ w, (zeroValue e).run P w = .ok zv w) (hc : zv.cells = Array.replicate s (.int .i64 0)) (hs : 0 < s)
    (T : TypeId) (b o n l : Nat) (hl : l ≤ n) (W : World) (B : Array Value) (t : TypeId) (hg : W.heap[b]? = some (.cells B t (0, 0))) (hB : o + n * s ≤ B.size) :
    (Builtin.clear_ #[ts] T #[fromV b o n s l]).run P W = .ok (.tuple #[]) (W.setRow b (wipe B (o + l * s) (o + n * s))) := by
  by_cases h : n = l
  · subst h
    rw [wipe_self, setRow_self W b B t _ hg]
    unfold Builtin.clear_ fromV
    simp [run_underlying ht, Result.andThen]
  · have hlt : l < n := by omega
    obtain ⟨m, hm⟩ : ∃ m, n - l = m + 1 := ⟨n - l - 1, by omega⟩
    have hms : (m + 1) * s + l * s = n * s := by rw [← hm, ← Nat.add_mul, Nat.sub_add_cancel hl]
    have hst := run_storeCells_at (P := P) b (o + l * s) t (List.replicate ((m + 1) * s) (Value.int .i64 0)) 0 B W hg (by simp; omega) (by simp [Value.oneCell'])
    unfold Builtin.clear_ fromV
    rw [if_neg h, hm]
    simp [run_underlying ht, Result.andThen]
    rw [hz W]
    simp only [hc, zeroCells_rep _ _ hs, Array.toList_replicate]
    rw [hst]
    simp only [Nat.add_zero, List.length_replicate, wipe]
    have e1 : o + n * s - (o + l * s) = (m + 1) * s := by omega
    have e2 : o + l * s + (m + 1) * s = o + n * s := by omega
    rw [e1, e2]

theorem setRow_alloc_old (w : World) (ob : Obj) (g : Nat) (cs : Array Value) (h : g < w.heap.size) : (w.alloc ob).setRow g cs = (w.setRow g cs).alloc ob := by
  simp only [World.setRow, World.alloc]
  congr 1
  apply Array.ext_getElem?
  intro i
  rw [Array.getElem?_modify, Array.getElem?_push, Array.getElem?_push, Array.size_modify, Array.getElem?_modify]
  by_cases h1 : i = w.heap.size
  · subst h1; rw [if_neg (by omega)]; simp
  · simp [h1]

/-- A store of a whole struct whose run is known. -/
theorem wpList_store_run {P : Program} {ops : Array Oper} {rest : List Oper} {op : Oper} {a : Act} {w : World} {Q : Exit → Act → World → Prop} (hgd : op.guard = none) (ty : TypeId) (x y : Operand) (ho : op.op = .store ty x y)
    (b : Nat) (cells : Array Value) (w2 : World) (hx : a.eval x = .pointer (some ⟨b, 0, none⟩)) (hy : a.eval y = .agg cells)
    (hr : (storeVar ty ⟨b, 0, none⟩ (.agg cells)).run P w = .ok () w2)
    (h : wpList P ops Q rest (a.put op.dst undef) w2) : wpList P ops Q (op :: rest) a w :=
  wpList_plain hgd fun _ hK => by
    unfold Oper.wp execOp
    simp only [ho, hx, hy, Instr.storeAt, Instr.sureAddr, Sem.run_bind, Sem.run_pure, Result.andThen_ok, hr]
    exact hK _ _ h
end
/-! Blocks that turn while all others stay: Only; a block known by its first cells: RowAt; copy, store and clear on it. Of no program. -/
section
open Go.RowKit Go

/-- All blocks but those of S are as they were. -/
structure Only (S : Nat → Prop) (w w' : World) : Prop where
  os : w'.os = w.os
  tape : w'.tape = w.tape
  output : w'.output = w.output
  size : w.heap.size ≤ w'.heap.size
  block : ∀ k, k < w.heap.size → ¬ S k → w'.heap[k]? = w.heap[k]?

theorem Only.refl (S : Nat → Prop) (w : World) : Only S w w := ⟨rfl, rfl, rfl, Nat.le_refl _, fun _ _ _ => rfl⟩
theorem Only.trans {S : Nat → Prop} {a b c : World} (h : Only S a b) (k : Only S b c) : Only S a c :=
  ⟨k.os.trans h.os, k.tape.trans h.tape, k.output.trans h.output, Nat.le_trans h.size k.size,
    fun i hi hs => (k.block i (Nat.lt_of_lt_of_le hi h.size) hs).trans (h.block i hi hs)⟩
theorem Only.of_below {S : Nat → Prop} {w w' : World} (h : Below w.heap.size w w') : Only S w w' := ⟨h.os, h.tape, h.output, h.size, fun k hk _ => h.block k hk⟩
theorem Only.alloc (S : Nat → Prop) (w : World) (ob : Obj) : Only S w (w.alloc ob) := Only.of_below ((Below.refl _ w).alloc (Nat.le_refl _) ob)
theorem Only.drewN (S : Nat → Prop) (w : World) (m : Nat) : Only S w (w.drewN m) := ⟨rfl, rfl, rfl, Nat.le_refl _, fun _ _ _ => rfl⟩
theorem Only.setCell {S : Nat → Prop} (w : World) (p : Addr) (hp : S p.block) (v : Value) : Only S w (w.setCell p v) :=
  ⟨rfl, rfl, rfl, by simp [World.setCell], fun k _ hs => Below.heap_setCell _ _ _ _ (fun e => hs (e ▸ hp))⟩
theorem Only.setRow {S : Nat → Prop} (w : World) (b : Nat) (hp : S b) (cs : Array Value) : Only S w (w.setRow b cs) :=
  ⟨rfl, rfl, rfl, by simp [World.setRow], fun k _ hs => setRow_other w b k cs (fun e => hs (e ▸ hp))⟩
theorem Only.mono {S S' : Nat → Prop} {w w' : World} (h : Only S w w') (hs : ∀ k, S k → S' k) : Only S' w w' :=
  ⟨h.os, h.tape, h.output, h.size, fun k hk hn => h.block k hk (fun x => hn (hs k x))⟩
/-- What turns from B on alone leaves all below B. -/
theorem Only.below {S : Nat → Prop} {B : Nat} {a w w' : World} (h : Only S w w') (hb : Below B a w) (hB : B ≤ w.heap.size) (hs : ∀ k, S k → B ≤ k) : Below B a w' :=
  hb.trans ⟨h.os, h.tape, h.output, h.size, fun k hk => h.block k (by omega) (fun x => by have := hs k x; omega)⟩
theorem Only.cell {S : Nat → Prop} {w w' : World} (h : Only S w w') {b o : Nat} {v : Value} (hs : ¬ S b) (hv : w.cell? ⟨b, o, none⟩ = some v) : w'.cell? ⟨b, o, none⟩ = some v := by
  have hb := World.block_lt_of_cell? _ _ hv
  rw [World.cell?_of_block (w := w) (a := ⟨b, o, none⟩) (h.block b hb hs)]; exact hv

theorem World.setCells_size (b : Nat) : ∀ (vs : List Value) (o : Nat) (w : World), (w.setCells b o vs).heap.size = w.heap.size
  | [], _, _ => rfl
  | v :: r, o, w => by
    rw [World.setCells, World.setCells_size b r (o + 1)]
    simp [World.setCell]
theorem Only.setCells {S : Nat → Prop} {b : Nat} (hp : S b) : ∀ (vs : List Value) (o : Nat) (w : World), Only S w (w.setCells b o vs)
  | [], _, w => Only.refl S w
  | v :: r, o, w => (Only.setCell w ⟨b, o, none⟩ hp v).trans (Only.setCells hp r (o + 1) _)

/-- Block b begins with the cells f 0 .. f (n - 1), none of them frozen. -/
def RowAt (w : World) (b n : Nat) (f : Nat → Value) : Prop := ∃ A t, w.heap[b]? = some (.cells A t (0, 0)) ∧ ∀ i, i < n → A[i]? = some (f i)

theorem RowAt.cell {w : World} {b n : Nat} {f : Nat → Value} (R : RowAt w b n f) (i : Nat) (h : i < n) : w.cell? ⟨b, i, none⟩ = some (f i) := by
  obtain ⟨A, t, hA, hf⟩ := R
  rw [cell_of_row w b i _ _ _ hA]; exact hf i h
theorem RowAt.frozen {w : World} {b n : Nat} {f : Nat → Value} (R : RowAt w b n f) (i : Nat) : w.frozen? ⟨b, i, none⟩ = false := by
  obtain ⟨A, t, hA, hf⟩ := R
  simp [World.frozen?, hA]
theorem RowAt.lt {w : World} {b n : Nat} {f : Nat → Value} (R : RowAt w b n f) : b < w.heap.size := by
  obtain ⟨A, t, hA, hf⟩ := R
  exact (Array.getElem?_eq_some_iff.1 hA).1
theorem RowAt.block {w w' : World} {b n : Nat} {f : Nat → Value} (R : RowAt w b n f) (h : w'.heap[b]? = w.heap[b]?) : RowAt w' b n f := by
  obtain ⟨A, t, hA, hf⟩ := R
  exact ⟨A, t, by rw [h]; exact hA, hf⟩
theorem RowAt.only {S : Nat → Prop} {w w' : World} {b n : Nat} {f : Nat → Value} (R : RowAt w b n f) (h : Only S w w') (hs : ¬ S b) : RowAt w' b n f := R.block (h.block b R.lt hs)
theorem RowAt.later {w w' : World} {b n : Nat} {f : Nat → Value} (R : RowAt w b n f) (h : Below w.heap.size w w') : RowAt w' b n f := R.block (h.block b R.lt)
theorem RowAt.below {B : Nat} {w w' : World} {b n : Nat} {f : Nat → Value} (R : RowAt w b n f) (h : Below B w w') (hb : b < B) : RowAt w' b n f := R.block (h.block b hb)
theorem RowAt.ext {w : World} {b n : Nat} {f g : Nat → Value} (R : RowAt w b n f) (h : ∀ i, i < n → f i = g i) : RowAt w b n g := by
  obtain ⟨A, t, hA, hf⟩ := R
  exact ⟨A, t, hA, fun i hi => by rw [hf i hi, h i hi]⟩
theorem RowAt.take {w : World} {b n m : Nat} {f : Nat → Value} (R : RowAt w b n f) (h : m ≤ n) : RowAt w b m f := by
  obtain ⟨A, t, hA, hf⟩ := R
  exact ⟨A, t, hA, fun i hi => hf i (by omega)⟩
theorem RowAt.new (w : World) (A : Array Value) (t : TypeId) (n : Nat) (f : Nat → Value) (h : ∀ i, i < n → A[i]? = some (f i)) : RowAt (w.alloc (.cells A t)) w.heap.size n f :=
  ⟨A, t, heap_alloc_new w _, h⟩
theorem RowAt.alloc {w : World} {b n : Nat} {f : Nat → Value} (R : RowAt w b n f) (ob : Obj) : RowAt (w.alloc ob) b n f := R.later ((Below.refl _ w).alloc (Nat.le_refl _) ob)

def updV (f : Nat → Value) (i : Nat) (v : Value) (j : Nat) : Value := if j = i then v else f j
theorem RowAt.setCell {w : World} {b n : Nat} {f : Nat → Value} (R : RowAt w b n f) (i : Nat) (v : Value) : RowAt (w.setCell ⟨b, i, none⟩ v) b n (updV f i v) := by
  obtain ⟨A, t, hA, hf⟩ := R
  refine ⟨A.setIfInBounds i v, t, ?_, fun j hj => ?_⟩
  · simp [World.setCell, Array.getElem?_modify, hA]
  · unfold updV
    by_cases h : j = i
    · subst h
      have := (Array.getElem?_eq_some_iff.1 (hf j hj)).1
      rw [if_pos rfl, Array.getElem?_setIfInBounds_self_of_lt this]
    · rw [if_neg h, Array.getElem?_setIfInBounds_ne (by omega)]
      exact hf j hj
theorem RowAt.setCells {b n : Nat} : ∀ (vs : List Value) (o : Nat) (w : World) (f : Nat → Value), RowAt w b n f → RowAt (w.setCells b o vs) b n (fun i => if o ≤ i ∧ i < o + vs.length then vs.getD (i - o) undef else f i)
  | [], o, w, f, R => R.ext (fun i _ => by rw [if_neg (by intro h; simp at h; omega)])
  | v :: r, o, w, f, R => by
    refine (RowAt.setCells r (o + 1) _ _ (R.setCell o v)).ext (fun i _ => ?_)
    by_cases h : o + 1 ≤ i ∧ i < o + 1 + r.length
    · rw [if_pos h, if_pos ⟨by omega, by simp; omega⟩, show i - o = i - (o + 1) + 1 by omega]; rfl
    · rw [if_neg h]
      unfold updV
      by_cases e : i = o
      · subst e
        rw [if_pos rfl, if_pos ⟨Nat.le_refl _, by simp⟩]; simp
      · rw [if_neg e, if_neg (by simp; omega)]

/-- k cells x laid over f from o on. -/
def putF (f : Nat → Value) (o k : Nat) (x : Nat → Value) (i : Nat) : Value := if o ≤ i ∧ i < o + k then x (i - o) else f i
theorem putF_none (f : Nat → Value) (o : Nat) (x : Nat → Value) : putF f o 0 x = f := by
  funext i; unfold putF; rw [if_neg (by omega)]
theorem RowAt.setRow_splice {w : World} {b n : Nat} {f : Nat → Value} {A : Array Value} {t : TypeId} (hA : w.heap[b]? = some (.cells A t (0, 0))) (hf : ∀ i, i < n → A[i]? = some (f i)) (o k : Nat) (x : Nat → Value) (hfit : o + k ≤ n) :
    RowAt (w.setRow b (A.toList.take o ++ ((List.range k).map x ++ A.toList.drop (o + k))).toArray) b n (putF f o k x) := by
  refine ⟨_, t, setRow_heap w b A _ t _ hA, fun i hi => ?_⟩
  have hlt := (Array.getElem?_eq_some_iff.1 (hf i hi)).1
  have hAi : A.toList[i]? = some (f i) := by simpa using hf i hi
  have hlen : o ≤ A.toList.length := by
    by_cases hz : n = 0
    · omega
    · have := (Array.getElem?_eq_some_iff.1 (hf (n - 1) (by omega))).1
      simp; omega
  rw [List.getElem?_toArray]
  unfold putF
  by_cases h1 : i < o
  · rw [if_neg (by omega), List.getElem?_append_left (by simp; omega), List.getElem?_take_of_lt h1]; exact hAi
  · by_cases h2 : i < o + k
    · rw [if_pos (by omega), List.getElem?_append_right (by simp; omega), List.length_take, Nat.min_eq_left hlen, List.getElem?_append_left (by simp; omega)]
      rw [List.getElem?_map, List.getElem?_range (by omega)]; rfl
    · rw [if_neg (by omega), List.getElem?_append_right (by simp; omega), List.length_take, Nat.min_eq_left hlen, List.getElem?_append_right (by simp; omega)]
      rw [List.length_map, List.length_range, List.getElem?_drop, show o + k + (i - o - k) = i by omega]; exact hAi

/-- copy onto a row. -/
theorem wpList_copy_row {P : Program} {w : World} {ops : Array Oper} {rest : List Oper} {o : Oper} {a : Act} {Q : Exit → Act → World → Prop} (hgd : o.guard = none) (d s : Operand) (dT sT : TypeId)
    (ho : o.op = .call { callee := .builtin .copy, args := #[d, s], argTypes := #[dT, sT] }) (elem : TypeId) (hu : P.underlying dT = some (.slice elem)) (hsz : (P.info? elem).map (·.size) = some 1)
    (dp sp : Option Addr) (dLen dCap sLen sCap : Nat) (hd : a.eval d = .slice dp dLen dCap) (hs : a.eval s = .slice sp sLen sCap)
    (g off n k : Nat) (f x : Nat → Value) (R : RowAt w g n f) (hk : k = Nat.min sLen dLen)
    (hpos : 0 < k → dp = some ⟨g, off, none⟩ ∧ ∃ ad, sp = some ad ∧ ∀ j, j < k → w.cell? (ad.add j) = some (x j))
    (hfit : off + k ≤ n) (h1 : ∀ j, j < k → (x j).oneCell' = true)
    (h : ∀ w', RowAt w' g n (putF f off k x) → Only (Eq g) w w' → w'.heap.size = w.heap.size → wpList P ops Q rest (a.put o.dst (goInt k)) w') :
    wpList P ops Q (o :: rest) a w := by
  by_cases h0 : k = 0
  · subst h0
    refine wpList_copy_nothing hgd d s dT sT ho elem hu hsz dp sp dLen dCap sLen sCap hd hs hk.symm ?_
    exact h w (by rw [putF_none]; exact R) (Only.refl _ _) rfl
  · obtain ⟨rfl, ad, rfl, hsrc⟩ := hpos (by omega)
    obtain ⟨A, t, hA, hf⟩ := R
    have hAs : n ≤ A.size := by
      by_cases hz : n = 0
      · omega
      · have := (Array.getElem?_eq_some_iff.1 (hf (n - 1) (by omega))).1
        omega
    have hl : ((List.range k).map x).length = k := by simp
    have hw := wpList_copy_own (P := P) (w := w) (ops := ops) (rest := rest) (o := o) (a := a) (Q := Q) hgd d s dT sT ho elem hu hsz g off dLen dCap ad sLen sCap hd hs A t hA ((List.range k).map x) (by rw [hl]; exact hk)
      (fun j v hv => by
        have hj : j < k := by have := (List.getElem?_eq_some_iff.1 hv).1; simpa using this
        rw [List.getElem?_map, List.getElem?_range hj] at hv
        rw [hsrc j hj]; exact hv)
      (by rw [hl]; omega) (fun v hv => by
        obtain ⟨j, hj, rfl⟩ := List.mem_map.1 hv
        exact h1 j (by simpa using hj))
    refine hw ?_
    rw [hl]
    exact h _ (RowAt.setRow_splice hA hf off k x hfit) (Only.setRow w g rfl _) (by simp [World.setRow])

/-- The row of a slice that the call owns. -/
theorem RowAt.of_owns {w : World} {base : Nat} {e : TypeId} {size n : Nat} {v : Value} {xs : List Value} (h : w.ownsRow base e size v n xs) (f : Nat → Value) (hf : ∀ i, i < n * size → xs[i]? = some (f i)) (hv : v ≠ .slice none 0 0) :
    ∃ g cap, v = .slice (some ⟨g, 0, none⟩) n cap ∧ base ≤ g ∧ g < w.heap.size ∧ n ≤ cap ∧ RowAt w g (n * size) f := by
  obtain ⟨hl, ⟨rfl, _⟩ | ⟨g, cap, cur, rfl, hb, hh, hnc, _, hs, ht⟩⟩ := h
  · exact absurd rfl hv
  · refine ⟨g, cap, rfl, hb, (Array.getElem?_eq_some_iff.1 hh).1, hnc, cur, e, hh, fun i hi => ?_⟩
    have := hf i hi
    rw [← ht, List.getElem?_take_of_lt hi] at this
    simpa using this
/-- A cell of a made row. -/
theorem made_at (z : Array Value) (n i : Nat) (hi : i < n) : (madeCells z n).toList[i]? = some (z[i % z.size]!) := by
  simp [madeCells, hi]

theorem RowAt.range {w : World} {b n : Nat} {f : Nat → Value} (R : RowAt w b n f) (o : Nat) (cs : List Value) (h : ∀ j v, cs[j]? = some v → o + j < n ∧ f (o + j) = v) : w.rangeAt b o cs := fun j v hv => by
  obtain ⟨h1, h2⟩ := h j v hv
  rw [R.cell _ h1, h2]
theorem RowAt.there {w : World} {b n : Nat} {f : Nat → Value} (R : RowAt w b n f) (o k : Nat) (h : o + k ≤ n) : w.there b o k := fun j hj => ⟨by rw [R.cell (o + j) (by omega)]; rfl, R.frozen _⟩
end
/-! Slices of ints that come in. -/
section
open Go.ChangeShapes Go.WideShapes Go.ChangeAt Go.RowKit

/-- Ints that lie at a. -/
def IntsIn (w : World) (a : Option Addr) (len : Nat) (z : Nat → Int) : Prop :=
  ∀ i, i < len → ∃ b o, a = some ⟨b, o, none⟩ ∧ w.cell? ⟨b, o + i, none⟩ = some (.int .i64 (z i)) ∧ -9223372036854775808 ≤ z i ∧ z i ≤ 9223372036854775807
theorem IntsIn.one {w : World} {a : Option Addr} {len : Nat} {z : Nat → Int} (h : IntsIn w a len z) (k : Nat) (hk : k < len) : ∃ b o, a = some ⟨b, o, none⟩ ∧ b < w.heap.size ∧ (-9223372036854775808 ≤ z k ∧ z k ≤ 9223372036854775807) ∧ ∀ W, Below w.heap.size w W → W.cell? ⟨b, o + k, none⟩ = some (.int .i64 (z k)) := by
  obtain ⟨b, o, e, hc, h1, h2⟩ := h k hk
  exact ⟨b, o, e, World.block_lt_of_cell? _ _ hc, ⟨h1, h2⟩, fun W hW => by rw [hW.cell (World.block_lt_of_cell? _ _ hc)]; exact hc⟩
set_option maxRecDepth 100000 in
theorem ints_of {H : Type} {enc : TypeId × Value → H} {W : World} {d : DataW H} {p : List MemPlace} {a : Option Addr} {len cap : Nat}
    (h : DataW.Trod enc Try.prog W 0 (fun _ => true) true 37 (.slice a len cap) d p) : ∃ z, IntsIn W a len z := by
  obtain ⟨fuel, hf⟩ := h
  rcases open_ints Try.underlying37 Try.underlying3 (by kernel_rfl) hf with ⟨e, _⟩ | ⟨x, l, c, zs, e, _, hl, hm, hz, _, hcell, hwf⟩
  · simp [Value.cells] at e
    obtain ⟨rfl, rfl, rfl⟩ := e
    exact ⟨fun _ => 0, fun i hi => absurd hi (Nat.not_lt_zero _)⟩
  · simp [Value.cells] at e
    obtain ⟨rfl, rfl, rfl⟩ := e
    have hlz : len ≤ zs.length := by rw [hz]; split <;> omega
    refine ⟨fun i => zs.getD i 0, fun i hi => ?_⟩
    obtain ⟨b, o, spot⟩ := x
    have hspot : spot = none := by
      have h0 := hcell 0 (by omega)
      simpa [Addr.add] using World.cell?_spot h0
    subst hspot
    have h1 := hcell i (by omega)
    rw [add_plain] at h1
    have h2 := in_i64 (hwf (zs.getD i 0) (by
      rw [List.getD_eq_getElem?_getD, List.getElem?_eq_getElem (by omega)]
      exact List.getElem_mem _))
    exact ⟨b, o, rfl, h1, h2⟩
end
/-! zones' laws: a call, and a list of calls, as they lie and as they come in. -/
section
open Go.ChangeShapes Go.WideShapes Go.ChangeAt Go.RowKit

/-- A call. -/
structure OpZ where
  kind : Int
  node : Int
  order : Int
  floor : Int
  nds : Option Addr
  len : Nat
  cap : Nat
  high : Bool
  z : Nat → Int
def OpZ.arr (o : OpZ) : Array Value := #[.int .i64 o.kind, .int .i64 o.node, .int .i64 o.order, .int .i64 o.floor, .slice o.nds o.len o.cap, .bool o.high]
def ozV (o : OpZ) (i : Nat) : Value := if i = 0 then .int .i64 o.kind else if i = 1 then .int .i64 o.node else if i = 2 then .int .i64 o.order else if i = 3 then .int .i64 o.floor else if i = 4 then .slice o.nds o.len o.cap else .bool o.high
theorem oz_at (o : OpZ) : ∀ i, i < 6 → o.arr[i]? = some (ozV o i) := by
  intro i hi
  rcases (show i = 0 ∨ i = 1 ∨ i = 2 ∨ i = 3 ∨ i = 4 ∨ i = 5 by omega) with rfl | rfl | rfl | rfl | rfl | rfl <;> rfl
/-- Its numbers are a machine's; its nodes lie. -/
def OpZ.ok (w : World) (o : OpZ) : Prop := (-9223372036854775808 ≤ o.node ∧ o.node ≤ 9223372036854775807) ∧ IntsIn w o.nds o.len o.z
/-- Calls at a. -/
def OpsZ (w : World) (a : Option Addr) (len : Nat) (O : Nat → OpZ) : Prop :=
  ∀ i, i < len → ∃ b o, a = some ⟨b, o, none⟩ ∧ w.rangeAt b (o + i * 6) (O i).arr.toList ∧ (O i).ok w
theorem cells39 : Try.prog.cellsOf 39 = 6 := by kernel_rfl
theorem cells4 : Try.prog.cellsOf 4 = 1 := by kernel_rfl
theorem cells37 : Try.prog.cellsOf 37 = 1 := by kernel_rfl
section
variable {H : Type} {enc : TypeId × Value → H} {W : World}
set_option maxRecDepth 100000 in
theorem ints_in {n : Nat} {cs : List Value} {r : DataW H × List MemPlace} (h : DataW.trod enc Try.prog W 0 (fun _ => true) true n 37 cs = some r) : ∃ a len cap z, cs = [.slice a len cap] ∧ IntsIn W a len z := by
  rcases open_ints Try.underlying37 Try.underlying3 (by kernel_rfl) h with ⟨e, _⟩ | ⟨x, l, c, zs, e, _, hl, hm, hz, _, hcell, hwf⟩
  · exact ⟨none, 0, 0, fun _ => 0, e, fun i hi => absurd hi (Nat.not_lt_zero _)⟩
  · refine ⟨some x, l, c, fun i => zs.getD i 0, e, fun i hi => ?_⟩
    have hlz : l ≤ zs.length := by rw [hz]; split <;> omega
    obtain ⟨b, o, spot⟩ := x
    have hspot : spot = none := by
      have h0 := hcell 0 (by omega)
      simpa [Addr.add] using World.cell?_spot h0
    subst hspot
    have h1 := hcell i (by omega)
    rw [add_plain] at h1
    have h2 := in_i64 (hwf (zs.getD i 0) (by
      rw [List.getD_eq_getElem?_getD, List.getElem?_eq_getElem (by omega)]
      exact List.getElem_mem _))
    exact ⟨b, o, rfl, h1, h2⟩
set_option maxRecDepth 100000 in
theorem opz_cells {n : Nat} {cs : List Value} {y : DataW H × List MemPlace} (hl : cs.length = 6) (h : DataW.trod enc Try.prog W 0 (fun _ => true) true n 39 cs = some y) : ∃ o : OpZ, cs = o.arr.toList ∧ o.ok W := by
  obtain ⟨xs, n, _, _, _, hxl, hfld⟩ := DataW.trod_struct Try.underlying39 h
  have f0 : DataW.trod enc Try.prog W 0 (fun _ => true) true n 3 ((cs.drop 0).take (Try.prog.cellsOf 3)) = xs[0]? := hfld 0 _ rfl
  have f1 : DataW.trod enc Try.prog W 0 (fun _ => true) true n 3 ((cs.drop 1).take (Try.prog.cellsOf 3)) = xs[1]? := hfld 1 _ rfl
  have f2 : DataW.trod enc Try.prog W 0 (fun _ => true) true n 3 ((cs.drop 2).take (Try.prog.cellsOf 3)) = xs[2]? := hfld 2 _ rfl
  have f3 : DataW.trod enc Try.prog W 0 (fun _ => true) true n 3 ((cs.drop 3).take (Try.prog.cellsOf 3)) = xs[3]? := hfld 3 _ rfl
  have f4 : DataW.trod enc Try.prog W 0 (fun _ => true) true n 37 ((cs.drop 4).take (Try.prog.cellsOf 37)) = xs[4]? := hfld 4 _ rfl
  have f5 : DataW.trod enc Try.prog W 0 (fun _ => true) true n 4 ((cs.drop 5).take (Try.prog.cellsOf 4)) = xs[5]? := hfld 5 _ rfl
  have hxl3 : xs.length = 6 := hxl
  rw [List.getElem?_eq_getElem (by omega), cells3] at f0 f1 f2 f3
  rw [List.getElem?_eq_getElem (by omega), cells37] at f4
  rw [List.getElem?_eq_getElem (by omega), cells4] at f5
  obtain ⟨z0, e0, _⟩ := int_in f0
  obtain ⟨z1, e1, hz1⟩ := int_in f1
  obtain ⟨z2, e2, _⟩ := int_in f2
  obtain ⟨z3, e3, _⟩ := int_in f3
  obtain ⟨a4, l4, c4, z4, e4, hz4⟩ := ints_in f4
  obtain ⟨z5, e5, _⟩ := DataW.trod_bool Try.underlying4 f5
  have g0 := at_drop e0
  have g1 := at_drop e1
  have g2 := at_drop e2
  have g3 := at_drop e3
  have g4 := at_drop e4
  have g5 := at_drop e5
  match cs, hl with
  | [a, b, c, d, e, f], _ =>
    simp at g0 g1 g2 g3 g4 g5
    subst g0; subst g1; subst g2; subst g3; subst g4; subst g5
    exact ⟨⟨z0, z1, z2, z3, a4, l4, c4, z5, z4⟩, rfl, hz1, hz4⟩
set_option maxRecDepth 100000 in
theorem opz_arg {base : Nat} {v : Value} {d : DataW H} {p : List MemPlace} (hv : Value.okWide Try.prog W .any base 39 v)
    (h : DataW.Trod enc Try.prog W 0 (fun _ => true) true 39 v d p) : ∃ o : OpZ, v = .agg o.arr ∧ o.ok W := by
  obtain ⟨A, rfl, hsz⟩ := okWide_struct Try.underlying39 hv
  rw [cells39] at hsz
  obtain ⟨fuel, hf⟩ := h
  obtain ⟨o, ho, hok⟩ := opz_cells (cs := A.toList) (by simpa using hsz) hf
  refine ⟨o, ?_, hok⟩
  congr 1
  apply Array.ext'
  rw [ho]
set_option maxRecDepth 100000 in
theorem bool_arg {base : Nat} {v : Value} {d : DataW H} {p : List MemPlace} (hv : Value.okWide Try.prog W .any base 4 v) (h : DataW.Trod enc Try.prog W 0 (fun _ => true) true 4 v d p) : ∃ z : Bool, v = .bool z := by
  obtain ⟨z, rfl, _, _⟩ := open_bool Try.underlying4 hv h
  exact ⟨z, rfl⟩
end
set_option maxRecDepth 100000 in
theorem opsz_of {H : Type} {enc : TypeId × Value → H} {W : World} {d : DataW H} {p : List MemPlace} {a : Option Addr} {len cap : Nat}
    (h : DataW.Trod enc Try.prog W 0 (fun _ => true) true 27 (.slice a len cap) d p) : ∃ O, OpsZ W a len O := by
  obtain ⟨fuel, hf⟩ := h
  rcases DataW.trod_slice Try.underlying27 hf with ⟨hcs, _⟩ | ⟨x, l, c, elems, rest, m, _, hcs, _, _, hl, hm, hlen, hel, _, _⟩
  · simp [Value.cells] at hcs
    obtain ⟨rfl, rfl, rfl⟩ := hcs
    exact ⟨fun _ => ⟨0, 0, 0, 0, none, 0, 0, false, fun _ => 0⟩, fun i hi => absurd hi (Nat.not_lt_zero _)⟩
  · simp [Value.cells] at hcs
    obtain ⟨rfl, rfl, rfl⟩ := hcs
    have each : ∀ i, i < len → ∃ o : OpZ, o.ok W ∧ ∀ j, j < 6 → W.cell? ((x.add (i * 6)).add j) = o.arr.toList[j]? := by
      intro i hi
      have h1 := hel i hi
      rw [cells39, List.getElem?_eq_getElem (by omega)] at h1
      obtain ⟨cs, hc, ht⟩ := Option.bind_eq_some_iff.1 h1
      obtain ⟨_, hcl, hat⟩ := World.cells?_some hc
      obtain ⟨o, rfl, hok⟩ := opz_cells hcl ht
      exact ⟨o, hok, hat⟩
    have key : ∀ i, i < len → ∃ t : OpZ, ∃ b o, some x = some (⟨b, o, none⟩ : Addr) ∧ W.rangeAt b (o + i * 6) t.arr.toList ∧ t.ok W := by
      intro i hi
      obtain ⟨b, o, spot⟩ := x
      have hspot : spot = none := by
        obtain ⟨t, _, hat⟩ := each 0 (by omega)
        have h0 := hat 0 (by omega)
        rw [show t.arr.toList[0]? = some (.int .i64 t.kind) from rfl] at h0
        simpa [Addr.add] using World.cell?_spot h0
      subst hspot
      obtain ⟨t, hok, hat⟩ := each i hi
      refine ⟨t, b, o, rfl, fun j v hv => ?_, hok⟩
      have hj : j < 6 := (List.getElem?_eq_some_iff.1 hv).1
      have a2 := hat j (by omega)
      rw [hv] at a2
      simp only [add_plain] at a2
      exact a2
    classical
    refine ⟨fun i => if hi : i < len then Classical.choose (key i hi) else ⟨0, 0, 0, 0, none, 0, 0, false, fun _ => 0⟩, fun i hi => ?_⟩
    have h := Classical.choose_spec (key i hi)
    simp only [dif_pos hi]
    exact h
end
/-! A region that draws its order, whose operations read and whose calls leave all that lay there as it was: walked once, in the order of the text, in the class of worlds that keep what lies below a mark. Of no program. -/
section
open Go.RowKit Go

/-- Below B all is as it was. -/
def Kept (B : Nat) (w W : World) : Prop := Below B w W
theorem Kept.below {B : Nat} {w W : World} (h : Kept B w W) : Below B w W := h
theorem Kept.call {B : Nat} {w W W' : World} (h : Kept B w W) (hB : B ≤ w.heap.size) (h2 : Below W.heap.size W W') : Kept B w W' := h.below.trans (h2.mono (Nat.le_trans hB h.below.size))
theorem Kept.cell {B : Nat} {w W : World} (h : Kept B w W) {b o : Nat} (hb : b < B) : W.cell? ⟨b, o, none⟩ = w.cell? ⟨b, o, none⟩ := h.below.cell (p := ⟨b, o, none⟩) hb

theorem wp_region_kept {P : Program} {id : Nat} {Q : Exit → Act → World → Prop} {a : Act} {w : World} {l : List Oper} (B : Nat) (hm : P.follows .mixedOrders = true) (hB : Region.lexB .any l.toArray = true)
    (h : wpQuiet P l.toArray (Kept B w) (fun a' => ∀ w', Kept B w w' → Q .normal a' w') l a) : (Code.region id l.toArray true).wp P Q a w :=
  wp_region_quiet (C := Kept B w) hm hB ⟨rfl, rfl, rfl, Nat.le_refl _, fun _ _ => rfl⟩ (by simpa using h)

/-- A load, in every world of the class. -/
theorem quiet_load {P : Program} {C : World → Prop} {o : Oper} {a : Act} {K : Act → Prop} (ty : TypeId) (x : Operand) (ho : o.op = .load ty x) {p : Addr} (hx : a.eval x = .pointer (some p)) {v : Value}
    (hv : ∀ W, C W → (loadVar ty p).run P W = .ok v W) (hk : K (a.put o.dst v)) : o.quiet P a C K :=
  ⟨v, fun W hW => by
    unfold Oper.quietAt execOp
    simp only [ho, hx, Instr.loadAt, Instr.sureAddr, Sem.run_bind, Sem.run_pure, Result.andThen_ok, hv W hW]
    exact ⟨rfl, rfl⟩, hk⟩
theorem run_loadVar_cell {P : Program} {ty : TypeId} {p : Addr} {v : Value} {W : World} (ha : ∀ w, (isAgg ty).run P w = .ok false w) (h : W.cell? p = some v) : (loadVar ty p).run P W = .ok v W := by
  simp [loadVar, Sem.run_bind, ha, go_sem, h]
theorem below_drewN {B : Nat} {a w : World} (h : Below B a w) (m : Nat) : Below B a (w.drewN m) := ⟨h.os, h.tape, h.output, h.size, h.block⟩
end
/-! A config as a value and in memory: ninety-four ints; what within, homesMay and framesMay come to. -/
section
open Go.RowKit Go

set_option maxRecDepth 100000 in
theorem size3 (w : World) : (sizeOf 3).run Try.prog w = .ok 1 w := by kernel_rfl
set_option maxRecDepth 100000 in
theorem size23 (w : World) : (sizeOf 23).run Try.prog w = .ok 8 w := by kernel_rfl

/-- The cells of a config: ninety-four ints. -/
structure Cfg (A : Array Value) (g : Nat → Int) : Prop where
  size : A.size = 94
  get : ∀ i, i < 94 → A[i]? = some (.int .i64 (g i))

theorem Cfg.one {A : Array Value} {g : Nat → Int} (C : Cfg A g) : A.all (·.oneCell') = true := by
  rw [Array.all_eq_true]
  intro i h
  have h2 := C.get i (by rw [← C.size]; exact h)
  rw [Array.getElem?_eq_getElem h] at h2
  rw [Option.some.inj h2]; rfl

/-- A config g lies at block b. -/
structure CfgAt (w : World) (b : Nat) (A : Array Value) (g : Nat → Int) : Prop where
  cfg : Cfg A g
  block : w.heap[b]? = some (.cells A 26 (0, 0))

theorem CfgAt.cell {w : World} {b : Nat} {A : Array Value} {g : Nat → Int} (C : CfgAt w b A g) (i : Nat) (h : i < 94) : w.cell? ⟨b, i, none⟩ = some (.int .i64 (g i)) := by
  rw [cell_of_row w b i _ _ _ C.block, C.cfg.get i h]
theorem CfgAt.lt {w : World} {b : Nat} {A : Array Value} {g : Nat → Int} (C : CfgAt w b A g) : b < w.heap.size := by
  have := C.block
  by_cases h : b < w.heap.size
  · exact h
  · rw [Array.getElem?_eq_none (by omega)] at this; cases this
theorem CfgAt.later {w w' : World} {b : Nat} {A : Array Value} {g : Nat → Int} (C : CfgAt w b A g) (hb : Below w.heap.size w w') : CfgAt w' b A g := by
  refine ⟨C.cfg, ?_⟩
  rw [hb.block b C.lt]; exact C.block
theorem CfgAt.drewN {w : World} {b : Nat} {A : Array Value} {g : Nat → Int} (C : CfgAt w b A g) (m : Nat) : CfgAt (w.drewN m) b A g := ⟨C.cfg, C.block⟩
theorem CfgAt.new (w : World) {A : Array Value} {g : Nat → Int} (C : Cfg A g) : CfgAt (w.alloc (.cells A 26)) w.heap.size A g := ⟨C, heap_alloc_new w _⟩


/-- within. -/
def withinB (n a b : Int) : Bool := decide (a ≤ n ∧ n ≤ b)
set_option maxRecDepth 100000 in
theorem within_any (n a b : Int) (w : World) : Calls Try.prog 45 #[.int .i64 n, .int .i64 a, .int .i64 b] w fun e w' => e = .returned (.bool (withinB n a b)) ∧ w = w' := by
  unfold withinB
  by_cases h1 : a ≤ n
  · by_cases h2 : n ≤ b
    all_goals
      go_enter Try.func45, Try.ntmps45
      go_wp2
      go_ret
      exact ⟨by simp [h1, h2], rfl⟩
  · go_enter Try.func45, Try.ntmps45
    go_wp2
    go_ret
    exact ⟨by simp; omega, rfl⟩

set_option maxRecDepth 100000 in
theorem within_is {n a b : Int} {v : Bool} (h : withinB n a b = v) (w : World) : Calls Try.prog 45 #[.int .i64 n, .int .i64 a, .int .i64 b] w fun e w' => e = .returned (.bool v) ∧ w = w' := by
  subst h; exact within_any n a b w

/-- All of the first n. -/
def allR (n : Nat) (p : Nat → Bool) : Bool := (List.range n).all p
theorem allR_true {n : Nat} {p : Nat → Bool} (h : ∀ i, i < n → p i = true) : allR n p = true := by
  simpa [allR] using h
theorem allR_false {n : Nat} {p : Nat → Bool} (k : Nat) (hk : k < n) (h : p k = false) : allR n p = false := by
  cases e : allR n p with
  | false => rfl
  | true =>
    have : ∀ i, i < n → p i = true := by simpa [allR] using e
    rw [this k hk] at h; cases h
theorem of_allR {n : Nat} {p : Nat → Bool} (h : allR n p = true) : ∀ i, i < n → p i = true := by simpa [allR] using h

/-- homesMay: the CPUs' homes are nodes. -/
def homesB (g : Nat → Int) : Bool := allR (g 1).toNat fun i => withinB (g (2 + i)) 0 (g 0 - 1)
set_option maxRecDepth 100000 in
theorem homes_any (A : Array Value) (g : Nat → Int) (w : World) (hA : Cfg A g) (hN : 1 ≤ g 0) (hN8 : g 0 ≤ 8) (hC : 1 ≤ g 1) (hC16 : g 1 ≤ 16) :
    Calls Try.prog 46 #[.agg A] w fun e w' => e = .returned (.bool (homesB g)) ∧ Below w.heap.size w w' := by
  obtain ⟨c, hc⟩ := Int.eq_ofNat_of_zero_le (show 0 ≤ g 1 by omega)
  obtain ⟨n, hn⟩ := Int.eq_ofNat_of_zero_le (show 0 ≤ g 0 by omega)
  have HB := Lib.hid (show homesB g = allR c fun i => withinB (g (2 + i)) 0 (n - 1) by unfold homesB; rw [hc, hn]; rfl)
  have hc1 : 1 ≤ c := by omega
  have hc2 : c ≤ 16 := by omega
  have hn1 : 1 ≤ n := by omega
  have hn2 : n ≤ 8 := by omega
  have a0 : A[0]? = some (.int .i64 n) := by rw [← hn]; exact hA.get 0 (by decide)
  have a1 : A[1]? = some (.int .i64 c) := by rw [← hc]; exact hA.get 1 (by decide)
  have HA := Lib.hid hA
  clear hA hc hn hN hN8 hC hC16
  have hsl := run_slice_to (P := Try.prog) Try.underlying22 size3 c hc2
  go_enter Try.func46, Try.ntmps46
  go_wp2_with (fail)
  go_loop [4, 10] (fun _ x => ∃ k : Nat, k ≤ c ∧ x = .int .i64 k ∧ Hid (∀ i, i < k → withinB (g (2 + i)) 0 (n - 1) = true)) (fun _ x => c - (intOf x).toNat)
  case atStart => exact ⟨0, Nat.zero_le _, rfl, Lib.hid (fun i h => absurd h (Nat.not_lt_zero _))⟩
  case round =>
    obtain ⟨k, hk, rfl, HK⟩ := hrel
    by_cases hlt : k < c
    · have ak : A[2 + k]? = some (.int .i64 (g (2 + k))) := HA.out.get _ (by omega)
      cases hw : withinB (g (2 + k)) 0 (n - 1) with
      | true =>
        have HW := Lib.hid hw
        clear hw
        go_wp2_with (fail)
        refine (within_is HW.out _).mono ?_
        rintro e w' ⟨rfl, rfl⟩
        go_wp2_with (fail)
        go_round
        case rel => exact ⟨k + 1, by omega, by go_num, Lib.hid (fun i h => by
          by_cases e : i = k
          · subst e; exact HW.out
          · exact HK.out i (by omega))⟩
        case measure => simp [intOf]; omega
      | false =>
        have HF := Lib.hid (show homesB g = false by rw [HB.out]; exact allR_false k hlt hw)
        have HW := Lib.hid hw
        clear hw
        go_wp2_with (fail)
        refine (within_is HW.out _).mono ?_
        rintro e w' ⟨rfl, rfl⟩
        go_wp2_with (fail)
        go_ret
        exact ⟨by rw [HF.out]; rfl, (Below.refl _ _).alloc (Nat.le_refl _) _⟩
    · have HT := Lib.hid (show homesB g = true by rw [HB.out]; exact allR_true (fun i h => HK.out i (by omega)))
      go_wp2_with (fail)
      go_ret
      exact ⟨by rw [HT.out]; rfl, (Below.refl _ _).alloc (Nat.le_refl _) _⟩

/-- framesMay: each node has as many frames as it may have. -/
def framesB (g : Nat → Int) : Bool := allR (g 0).toNat fun i => withinB (g (18 + i)) 4 128
set_option maxRecDepth 100000 in
theorem framesMay_any (A : Array Value) (g : Nat → Int) (w : World) (hA : Cfg A g) (hN : 1 ≤ g 0) (hN8 : g 0 ≤ 8) :
    Calls Try.prog 47 #[.agg A] w fun e w' => e = .returned (.bool (framesB g)) ∧ Below w.heap.size w w' := by
  obtain ⟨n, hn⟩ := Int.eq_ofNat_of_zero_le (show 0 ≤ g 0 by omega)
  have HB := Lib.hid (show framesB g = allR n fun i => withinB (g (18 + i)) 4 128 by unfold framesB; rw [hn]; rfl)
  have hn1 : 1 ≤ n := by omega
  have hn2 : n ≤ 8 := by omega
  have a0 : A[0]? = some (.int .i64 n) := by rw [← hn]; exact hA.get 0 (by decide)
  have HA := Lib.hid hA
  clear hA hn hN hN8
  have hsl := run_slice_to (P := Try.prog) Try.underlying23 size3 n hn2
  go_enter Try.func47, Try.ntmps47
  go_wp2_with (fail)
  go_loop [4, 10] (fun _ x => ∃ k : Nat, k ≤ n ∧ x = .int .i64 k ∧ Hid (∀ i, i < k → withinB (g (18 + i)) 4 128 = true)) (fun _ x => n - (intOf x).toNat)
  case atStart => exact ⟨0, Nat.zero_le _, rfl, Lib.hid (fun i h => absurd h (Nat.not_lt_zero _))⟩
  case round =>
    obtain ⟨k, hk, rfl, HK⟩ := hrel
    by_cases hlt : k < n
    · have ak : A[18 + k]? = some (.int .i64 (g (18 + k))) := HA.out.get _ (by omega)
      cases hw : withinB (g (18 + k)) 4 128 with
      | true =>
        have HW := Lib.hid hw
        clear hw
        go_wp2_with (fail)
        refine (within_is HW.out _).mono ?_
        rintro e w' ⟨rfl, rfl⟩
        go_wp2_with (fail)
        go_round
        case rel => exact ⟨k + 1, by omega, by go_num, Lib.hid (fun i h => by
          by_cases e : i = k
          · subst e; exact HW.out
          · exact HK.out i (by omega))⟩
        case measure => simp [intOf]; omega
      | false =>
        have HF := Lib.hid (show framesB g = false by rw [HB.out]; exact allR_false k hlt hw)
        have HW := Lib.hid hw
        clear hw
        go_wp2_with (fail)
        refine (within_is HW.out _).mono ?_
        rintro e w' ⟨rfl, rfl⟩
        go_wp2_with (fail)
        go_ret
        exact ⟨by rw [HF.out]; rfl, (Below.refl _ _).alloc (Nat.le_refl _) _⟩
    · have HT := Lib.hid (show framesB g = true by rw [HB.out]; exact allR_true (fun i h => HK.out i (by omega)))
      go_wp2_with (fail)
      go_ret
      exact ⟨by rw [HT.out]; rfl, (Below.refl _ _).alloc (Nat.le_refl _) _⟩
end
/-! distancesMay, slices.Min, watermarksMay. -/
section
open Go.RowKit Go

/-- Two nodes' distances. -/
def pairB (g : Nat → Int) (a b : Nat) : Bool := !(g (26 + a * 8 + b) != g (26 + b * 8 + a)) && withinB (g (26 + a * 8 + b)) 1 255
def rowB (g : Nat → Int) (a : Nat) : Bool := !(g (26 + a * 8 + a) != 0) && allR a (pairB g a)
/-- distancesMay. -/
def distB (g : Nat → Int) : Bool := allR (g 0).toNat (rowB g)

set_option maxRecDepth 100000 in
theorem dist_any (A : Array Value) (g : Nat → Int) (w : World) (hA : Cfg A g) (hN : 1 ≤ g 0) (hN8 : g 0 ≤ 8) :
    Calls Try.prog 48 #[.agg A] w fun e w' => e = .returned (.bool (distB g)) ∧ Below w.heap.size w w' := by
  obtain ⟨n, hn⟩ := Int.eq_ofNat_of_zero_le (show 0 ≤ g 0 by omega)
  have HB := Lib.hid (show distB g = allR n (rowB g) by unfold distB; rw [hn]; rfl)
  have hn1 : 1 ≤ n := by omega
  have hn2 : n ≤ 8 := by omega
  have a0 : A[0]? = some (.int .i64 n) := by rw [← hn]; exact hA.get 0 (by decide)
  have HA := Lib.hid hA
  clear hA hn hN hN8
  go_enter Try.func48, Try.ntmps48
  go_wp2_with (fail)
  go_loopw [3, 4, 5, 6, 9, 20] (fun _ _ _ _ x _ wr => ∃ k : Nat, k ≤ n ∧ x = .int .i64 k ∧ Hid (∀ i, i < k → rowB g i = true) ∧ ∃ m, wr = (w.alloc (.cells A 26)).drewN m) (fun _ _ _ _ x _ _ => n - (intOf x).toNat)
  case atStart => exact ⟨0, Nat.zero_le _, rfl, Lib.hid (fun i h => absurd h (Nat.not_lt_zero _)), 0, rfl⟩
  case round =>
    obtain ⟨k, hk, rfl, HK, m, rfl⟩ := hrel
    by_cases hlt : k < n
    · have akk : A[26 + k * 8 + k]? = some (.int .i64 (g (26 + k * 8 + k))) := HA.out.get _ (by omega)
      cases hw : (g (26 + k * 8 + k) != 0) with
      | true =>
        have HF := Lib.hid (show distB g = false by rw [HB.out]; exact allR_false k hlt (by unfold rowB; rw [hw]; rfl))
        go_wp2_with (fail)
        go_ret
        exact ⟨by rw [HF.out]; rfl, below_drewN ((Below.refl _ _).alloc (Nat.le_refl _) _) _⟩
      | false =>
        have HR := Lib.hid hw
        go_wp2_with (fail)
        clear hw akk
        go_loopw [4, 5, 6, 20] (fun _ _ _ x wr => ∃ j : Nat, j ≤ k ∧ x = .int .i64 j ∧ Hid (∀ i, i < j → pairB g k i = true) ∧ ∃ m, wr = (w.alloc (.cells A 26)).drewN m) (fun _ _ _ x _ => k - (intOf x).toNat)
        case atStart => exact ⟨0, Nat.zero_le _, rfl, Lib.hid (fun i h => absurd h (Nat.not_lt_zero _)), m, rfl⟩
        case round =>
          obtain ⟨j, hj, rfl, HJ, m2, rfl⟩ := hrel
          by_cases hlj : j < k
          · have e1 : A[26 + k * 8 + j]? = some (.int .i64 (g (26 + k * 8 + j))) := HA.out.get _ (by omega)
            have e2 : A[26 + j * 8 + k]? = some (.int .i64 (g (26 + j * 8 + k))) := HA.out.get _ (by omega)
            have ik : (k : Int) < 8 := by omega
            have ij : (j : Int) < 8 := by omega
            have HP := Lib.hid (show pairB g k j = (!(g (26 + k * 8 + j) != g (26 + j * 8 + k)) && withinB (g (26 + k * 8 + j)) 1 255) from rfl)
            have HL := Lib.hid (show pairB g k j = false → distB g = false from fun h => by
              rw [HB.out]; exact allR_false k hlt (by unfold rowB; rw [allR_false j hlj h, Bool.and_false]))
            generalize g (26 + k * 8 + j) = x at e1 HP
            generalize g (26 + j * 8 + k) = y at e2 HP
            cases hne : (x != y) with
            | true =>
              have HF := Lib.hid (HL.out (by rw [HP.out, hne]; rfl))
              go_wp2_with (fail)
              go_quiet (fail)
              go_wp2_with (fail)
              go_ret
              exact ⟨by rw [HF.out]; rfl, below_drewN ((Below.refl _ _).alloc (Nat.le_refl _) _) _⟩
            | false =>
              cases hwi : withinB x 1 255 with
              | true =>
                have HT := Lib.hid (show pairB g k j = true by rw [HP.out, hne, hwi]; rfl)
                have HI := Lib.hid hwi
                clear hwi
                go_wp2_with (fail)
                go_quiet (fail)
                go_wp2_with (fail)
                refine (within_is HI.out _).mono ?_
                rintro e w' ⟨rfl, rfl⟩
                go_wp2_with (fail)
                go_roundw
                case rel => exact ⟨j + 1, by omega, by go_num, Lib.hid (fun i h => by
                  by_cases e : i = j
                  · subst e; exact HT.out
                  · exact HJ.out i (by omega)), _, rfl⟩
                case measure => simp [intOf]; omega
              | false =>
                have HF := Lib.hid (HL.out (by rw [HP.out, hwi, Bool.and_false]))
                have HI := Lib.hid hwi
                clear hwi
                go_wp2_with (fail)
                go_quiet (fail)
                go_wp2_with (fail)
                refine (within_is HI.out _).mono ?_
                rintro e w' ⟨rfl, rfl⟩
                go_wp2_with (fail)
                go_ret
                exact ⟨by rw [HF.out]; rfl, below_drewN ((Below.refl _ _).alloc (Nat.le_refl _) _) _⟩
          · have HT := Lib.hid (show rowB g k = true by
              unfold rowB; rw [HR.out, allR_true (fun i h => HJ.out i (by omega))]; rfl)
            go_wp2_with (fail)
            go_roundw
            case rel => exact ⟨k + 1, by omega, by go_num, Lib.hid (fun i h => by
              by_cases e : i = k
              · subst e; exact HT.out
              · exact HK.out i (by omega)), _, rfl⟩
            case measure => simp [intOf]; omega
    · have HT := Lib.hid (show distB g = true by rw [HB.out]; exact allR_true (fun i h => HK.out i (by omega)))
      go_wp2_with (fail)
      go_ret
      exact ⟨by rw [HT.out]; rfl, below_drewN ((Below.refl _ _).alloc (Nat.le_refl _) _) _⟩
end
/-! slices.Min, watermarksMay. -/
section
open Go.RowKit Go

/-- The least of f 0 to f k. -/
def minR (f : Nat → Int) : Nat → Int
  | 0 => f 0
  | k + 1 => if f (k + 1) < minR f k then f (k + 1) else minR f k
theorem le_minR (f : Nat → Int) (x : Int) : ∀ k, (x ≤ minR f k ↔ ∀ i, i ≤ k → x ≤ f i)
  | 0 => by simp [minR]
  | k + 1 => by
    have ih := le_minR f x k
    unfold minR
    constructor
    · intro h i hi
      by_cases e : i = k + 1
      · subst e; split at h <;> omega
      · exact (ih.1 (by split at h <;> omega)) i (by omega)
    · intro h
      have h1 := h (k + 1) (Nat.le_refl _)
      have h2 := ih.2 (fun i hi => h i (by omega))
      split <;> omega

set_option maxRecDepth 100000 in
theorem min_any (b o n cap : Nat) (f : Nat → Int) (w : World) (hn : 1 ≤ n) (hm : n ≤ 1000) (hc : ∀ i, i < n → w.cell? ⟨b, o + i, none⟩ = some (.int .i64 (f i))) :
    Calls Try.prog 66 #[.slice (some ⟨b, o, none⟩) n cap] w fun e w' => e = .returned (.int .i64 (minR f (n - 1))) ∧ w = w' := by
  have h0 : w.cell? ⟨b, o, none⟩ = some (.int .i64 (f 0)) := hc 0 (by omega)
  have HC := Lib.hid hc
  clear hc
  go_enter Try.func66, Try.ntmps66
  go_wp2_with (fail)
  clear h0
  go_loop [3, 4] (fun m i => ∃ k : Nat, k + 1 ≤ n ∧ i = .int .i64 (k + 1 : Nat) ∧ m = .int .i64 (minR f k)) (fun _ i => n - (intOf i).toNat)
  case atStart => exact ⟨0, by omega, rfl, rfl⟩
  case round =>
    obtain ⟨k, hk, rfl, rfl⟩ := hrel
    by_cases hlt : k + 1 < n
    · have ck := HC.out (k + 1) hlt
      have HM := Lib.hid (show minR f (k + 1) = if f (k + 1) < minR f k then f (k + 1) else minR f k from rfl)
      generalize hx : f (k + 1) = x at ck HM
      clear hx
      go_wp2_with (fail)
      go_round
      case rel => exact ⟨k + 1, hlt, by go_num, by rw [HM.out]⟩
      case measure => simp [intOf]; omega
    · have e : n - 1 = k := by omega
      have HE := Lib.hid e
      clear e
      go_wp2_with (fail)
      go_ret
      exact ⟨by rw [HE.out]; rfl, rfl⟩

/-- watermarksMay. -/
def waterB (g : Nat → Int) : Bool := decide (0 ≤ g 91) && (decide (g 91 ≤ g 92) && (decide (g 92 ≤ g 93) && decide (g 93 ≤ minR (fun i => g (18 + i)) ((g 0).toNat - 1))))
set_option maxRecDepth 100000 in
set_option maxHeartbeats 1000000 in
theorem water_any (A : Array Value) (g : Nat → Int) (w : World) (hA : Cfg A g) (hN : 1 ≤ g 0) (hN8 : g 0 ≤ 8) :
    Calls Try.prog 49 #[.agg A] w fun e w' => e = .returned (.bool (waterB g)) ∧ Below w.heap.size w w' := by
  obtain ⟨n, hn⟩ := Int.eq_ofNat_of_zero_le (show 0 ≤ g 0 by omega)
  have hn1 : 1 ≤ n := by omega
  have hn2 : n ≤ 8 := by omega
  have a0 : A[0]? = some (.int .i64 n) := by rw [← hn]; exact hA.get 0 (by decide)
  have a91 : A[91]? = some (.int .i64 (g 91)) := hA.get 91 (by decide)
  have a92 : A[92]? = some (.int .i64 (g 92)) := hA.get 92 (by decide)
  have a93 : A[93]? = some (.int .i64 (g 93)) := hA.get 93 (by decide)
  have HB := Lib.hid (show waterB g = (decide (0 ≤ g 91) && (decide (g 91 ≤ g 92) && (decide (g 92 ≤ g 93) && decide (g 93 ≤ minR (fun i => g (18 + i)) (n - 1))))) by unfold waterB; rw [hn]; rfl)
  have HM := Lib.hid (show ∀ W m, W = (w.alloc (.cells A 26)).drewN m → Calls Try.prog 66 #[.slice (some ⟨w.heap.size, 18, none⟩) n 8] W fun e w' => e = .returned (.int .i64 (minR (fun i => g (18 + i)) (n - 1))) ∧ W = w' from fun W m hW => by
    subst hW
    exact min_any w.heap.size 18 n 8 (fun i => g (18 + i)) _ hn1 (by omega) (fun i hi => by
      show ((w.alloc (.cells A 26)).cell? _) = _
      rw [cell_of_row _ _ _ _ _ _ (heap_alloc_new w _)]
      exact hA.get _ (by omega)))
  generalize minR (fun i => g (18 + i)) (n - 1) = M at HB HM
  clear hA hn hN hN8
  have hsl := run_slice_to (P := Try.prog) Try.underlying23 size3 n hn2
  generalize g 91 = x at a91 HB
  generalize g 92 = y at a92 HB
  generalize g 93 = z at a93 HB
  by_cases h1 : 0 ≤ x
  · by_cases h2 : x ≤ y
    · by_cases h3 : y ≤ z
      · go_enter Try.func49, Try.ntmps49
        go_wp2_with (fail)
        go_quiet ((go_at_call 66; exact (HM.out _ _ rfl).mono fun _ _ h => ⟨h.1, _, h.2.symm⟩))
        go_wp2_with (fail)
        go_ret
        exact ⟨by rw [HB.out]; simp [h1, h2, h3], below_drewN ((Below.refl _ _).alloc (Nat.le_refl _) _) _⟩
      · have hd : decide (y ≤ z) = false := by simpa using h3
        go_enter Try.func49, Try.ntmps49
        go_wp2_with (fail)
        go_quiet (fail)
        go_wp2_with (fail)
        go_ret
        exact ⟨by rw [HB.out]; simp [hd], below_drewN ((Below.refl _ _).alloc (Nat.le_refl _) _) _⟩
    · have hd : decide (x ≤ y) = false := by simpa using h2
      go_enter Try.func49, Try.ntmps49
      go_wp2_with (fail)
      go_quiet (fail)
      go_wp2_with (fail)
      go_ret
      exact ⟨by rw [HB.out]; simp [hd], below_drewN ((Below.refl _ _).alloc (Nat.le_refl _) _) _⟩
  · have hd : decide (0 ≤ x) = false := by simpa using h1
    go_enter Try.func49, Try.ntmps49
    go_wp2_with (fail)
    go_quiet (fail)
    go_wp2_with (fail)
    go_ret
    exact ⟨by rw [HB.out]; simp [hd], below_drewN ((Below.refl _ _).alloc (Nat.le_refl _) _) _⟩
end
/-! bare: a config with nothing behind its nodes and CPUs. -/
section
open Go.RowKit Go

set_option maxRecDepth 100000 in
theorem zero3 (w : World) : (zeroValue 3).run Try.prog w = .ok (.int .i64 0) w := by kernel_rfl
set_option maxRecDepth 100000 in
theorem zero23 (w : World) : (zeroValue 23).run Try.prog w = .ok (.agg #[.int .i64 0, .int .i64 0, .int .i64 0, .int .i64 0, .int .i64 0, .int .i64 0, .int .i64 0, .int .i64 0]) w := by kernel_rfl
set_option maxRecDepth 100000 in
theorem infoCfg : (Try.prog.info? 26).map (fun i => (i.zero, i.size)) = some (some (.agg (Array.replicate 94 (.int .i64 0))), 94) := by kernel_rfl
set_option maxRecDepth 100000 in
theorem zeroCfg : ∃ Z : Array Value, Z.size = 94 ∧ ∀ w, (zeroValue 26).run Try.prog w = .ok (.agg Z) w := ⟨_, by simp, (zero_of_info infoCfg).1⟩

/-- The config with nothing behind its nodes and CPUs, of which the first k rows of the distances are wiped. -/
def bareR (g : Nat → Int) (c n k i : Nat) : Int :=
  if i < 2 then g i else if i < 18 then (if i < 2 + c then g i else 0) else if i < 26 then (if i < 18 + n then g i else 0)
  else if i < 90 then (if (i - 26) / 8 < n then (if (i - 26) / 8 < k ∧ n ≤ (i - 26) % 8 then 0 else g i) else 0) else g i
def bareG (g : Nat → Int) : Nat → Int := bareR g (g 1).toNat (g 0).toNat (g 0).toNat

theorem wiped {A : Array Value} {g h : Nat → Int} (C : Cfg A g) (lo hi : Nat) (hl : lo ≤ hi) (hh : hi ≤ 94) (e : ∀ i, i < 94 → h i = if lo ≤ i ∧ i < hi then 0 else g i) : Cfg (wipe A lo hi) h := by
  refine ⟨by rw [wipe_size A lo hi hl (by rw [C.size]; exact hh)]; exact C.size, fun i hi' => ?_⟩
  rw [wipe_get A lo hi i hl (by rw [C.size]; exact hh), e i hi']
  by_cases h1 : lo ≤ i ∧ i < hi
  · rw [if_pos h1, if_pos h1]
  · rw [if_neg h1, if_neg h1]; exact C.get i hi'

theorem bare3 {A : Array Value} {g : Nat → Int} (C : Cfg A g) (c n : Nat) (hc : c ≤ 16) (hn : n ≤ 8) : Cfg (wipe (wipe (wipe A (2 + c * 1) (2 + 16 * 1)) (18 + n * 1) (18 + 8 * 1)) (26 + n * 8) (26 + 8 * 8)) (bareR g c n 0) := by
  have h1 := wiped (h := fun i => if 2 + c * 1 ≤ i ∧ i < 2 + 16 * 1 then 0 else g i) C (2 + c * 1) (2 + 16 * 1) (by omega) (by decide) (fun i _ => rfl)
  have h2 := wiped (h := fun i => if 18 + n * 1 ≤ i ∧ i < 18 + 8 * 1 then 0 else if 2 + c * 1 ≤ i ∧ i < 2 + 16 * 1 then 0 else g i) h1 (18 + n * 1) (18 + 8 * 1) (by omega) (by decide) (fun i _ => rfl)
  refine wiped h2 (26 + n * 8) (26 + 8 * 8) (by omega) (by decide) (fun i hi => ?_)
  unfold bareR
  by_cases a1 : i < 2
  · simp only [a1, if_true]; rw [if_neg (by omega), if_neg (by omega), if_neg (by omega)]
  · rw [if_neg a1]
    by_cases a2 : i < 18
    · rw [if_pos a2]
      by_cases a3 : i < 2 + c
      · rw [if_pos a3, if_neg (by omega), if_neg (by omega), if_neg (by omega)]
      · rw [if_neg a3, if_neg (by omega), if_neg (by omega), if_pos (by omega)]
    · rw [if_neg a2]
      by_cases a3 : i < 26
      · rw [if_pos a3]
        by_cases a4 : i < 18 + n
        · rw [if_pos a4, if_neg (by omega), if_neg (by omega), if_neg (by omega)]
        · rw [if_neg a4, if_neg (by omega), if_pos (by omega)]
      · rw [if_neg a3]
        by_cases a4 : i < 90
        · rw [if_pos a4]
          by_cases a5 : (i - 26) / 8 < n
          · rw [if_pos a5, if_neg (by omega), if_neg (by omega), if_neg (by omega), if_neg (by omega)]
          · rw [if_neg a5, if_pos (by omega)]
        · rw [if_neg a4, if_neg (by omega), if_neg (by omega), if_neg (by omega)]

theorem bare_step {B : Array Value} {g : Nat → Int} {c n k : Nat} (hn : n ≤ 8) (hk : k < n) (C : Cfg B (bareR g c n k)) : Cfg (wipe B (26 + k * 8 + n * 1) (26 + k * 8 + 8 * 1)) (bareR g c n (k + 1)) := by
  refine wiped C _ _ (by omega) (by omega) (fun i hi => ?_)
  unfold bareR
  by_cases a1 : i < 2
  · simp only [a1, if_true]; rw [if_neg (by omega)]
  · simp only [a1, if_false]
    by_cases a2 : i < 18
    · simp only [a2, if_true]; rw [if_neg (show ¬ (26 + k * 8 + n * 1 ≤ i ∧ _) by omega)]
    · simp only [a2, if_false]
      by_cases a3 : i < 26
      · simp only [a3, if_true]; rw [if_neg (show ¬ (26 + k * 8 + n * 1 ≤ i ∧ _) by omega)]
      · simp only [a3, if_false]
        by_cases a4 : i < 90
        · simp only [a4, if_true]
          by_cases a5 : (i - 26) / 8 < n
          · simp only [a5, if_true]
            by_cases a6 : (i - 26) / 8 = k
            · by_cases a7 : n ≤ (i - 26) % 8
              · rw [if_pos (by omega), if_pos (by omega)]
              · rw [if_neg (by omega), if_neg (by omega), if_neg (by omega)]
            · by_cases a7 : (i - 26) / 8 < k ∧ n ≤ (i - 26) % 8
              · rw [if_pos (by omega), if_neg (by omega), if_pos a7]
              · rw [if_neg (by omega), if_neg (by omega), if_neg a7]
          · simp only [a5, if_false]
            rw [ite_self]
        · simp only [a4, if_false]; rw [if_neg (by omega)]

/-- The two blocks of bare: the config that it turns, and the result's. -/
def bareW (w : World) (B Z : Array Value) (m : Nat) : World := ((w.alloc (.cells B 26)).alloc (.cells Z 26)).drewN m
theorem bareW_own (w : World) (B Z : Array Value) (m : Nat) : (bareW w B Z m).heap[w.heap.size]? = some (.cells B 26 (0, 0)) := heap_alloc2_old w _ _
theorem bareW_res (w : World) (B Z : Array Value) (m : Nat) : (bareW w B Z m).heap[w.heap.size + 1]? = some (.cells Z 26 (0, 0)) := heap_alloc2_new w _ _
theorem bareW_set (w : World) (B Z B' : Array Value) (m : Nat) : (bareW w B Z m).setRow w.heap.size B' = bareW w B' Z m := by
  show (((w.alloc _).alloc _).setRow w.heap.size B').drewN m = _
  rw [setRow_alloc_old _ _ _ _ (by simp), World.setRow_alloc_new]; rfl

theorem still_tail {P : Program} {id : Nat} {Q : Exit → Act → World → Prop} {a : Act} {w : World} {l : List Oper} (n : Nat) (hm : P.follows .mixedOrders = true) (hB : Region.lexTailB .any l.toArray n = true)
    (h : wpStill P l.toArray w.drew (fun a' => wpList P l.toArray Q (l.drop n) a' w.drew) (l.take n) a) : (Code.region id l.toArray true).wp P Q a w :=
  wp_region_still_tail n hm hB h

set_option maxRecDepth 100000 in
theorem bare_any (A : Array Value) (g : Nat → Int) (w : World) (hA : Cfg A g) (hN : 1 ≤ g 0) (hN8 : g 0 ≤ 8) (hC : 1 ≤ g 1) (hC16 : g 1 ≤ 16) :
    Calls Try.prog 50 #[.agg A] w fun e w' => ∃ A', e = .returned (.agg A') ∧ Cfg A' (bareG g) ∧ Below w.heap.size w w' := by
  obtain ⟨c, hc⟩ := Int.eq_ofNat_of_zero_le (show 0 ≤ g 1 by omega)
  obtain ⟨n, hn⟩ := Int.eq_ofNat_of_zero_le (show 0 ≤ g 0 by omega)
  have HG := Lib.hid (show bareG g = bareR g c n n by unfold bareG; rw [hc, hn]; rfl)
  have H0 := Lib.hid hn
  have hc1 : 1 ≤ c := by omega
  have hc2 : c ≤ 16 := by omega
  have hn1 : 1 ≤ n := by omega
  have hn2 : n ≤ 8 := by omega
  have C3 := bare3 hA c n hc2 hn2
  have z := hA.size
  have a0 : A[0]? = some (.int .i64 n) := by rw [← hn]; exact hA.get 0 (by decide)
  have a1 : A[1]? = some (.int .i64 c) := by rw [← hc]; exact hA.get 1 (by decide)
  obtain ⟨Z, hz, hZ⟩ := zeroCfg
  have HZ := Lib.hid hz
  clear hz hA hc hn hN hN8 hC hC16
  have s1 := run_slice_from (P := Try.prog) Try.underlying22 size3 c hc2
  have s2 := run_slice_from (P := Try.prog) Try.underlying23 size3 n hn2
  have s3 := run_slice_from (P := Try.prog) Try.underlying24 size23 n hn2
  have K1 := fun B T m (hB : B.size = 94) => run_clear_from (P := Try.prog) (s := 1) Try.underlying37 zero3 rfl (by decide) T w.heap.size 2 16 c hc2 _ B _ (bareW_own w B Z m) (by omega)
  have K2 := fun B T m (hB : B.size = 94) => run_clear_from (P := Try.prog) (s := 1) Try.underlying37 zero3 rfl (by decide) T w.heap.size 18 8 n hn2 _ B _ (bareW_own w B Z m) (by omega)
  have K3 := fun B T m (hB : B.size = 94) => run_clear_from (P := Try.prog) (s := 8) Try.underlying109 zero23 rfl (by decide) T w.heap.size 26 8 n hn2 _ B _ (bareW_own w B Z m) (by omega)
  simp only [bareW_set] at K1 K2 K3
  have k1 := fun T => K1 A T 0 z
  have z1 : (wipe A (2 + c * 1) (2 + 16 * 1)).size = 94 := by rw [wipe_size _ _ _ (by omega) (by omega), z]
  have k2 := fun T => K2 _ T 0 z1
  have z2 : (wipe (wipe A (2 + c * 1) (2 + 16 * 1)) (18 + n * 1) (18 + 8 * 1)).size = 94 := by rw [wipe_size _ _ _ (by omega) (by omega), z1]
  have k3 := fun T => K3 _ T 0 z2
  have b0 : (wipe A (2 + c * 1) (2 + 16 * 1))[0]? = some (.int .i64 n) := by rw [wipe_get _ _ _ _ (by omega) (by omega), if_neg (by omega), a0]
  have b1 : (wipe (wipe A (2 + c * 1) (2 + 16 * 1)) (18 + n * 1) (18 + 8 * 1))[0]? = some (.int .i64 n) := by rw [wipe_get _ _ _ _ (by omega) (by omega), if_neg (by omega), b0]
  have b2 : (wipe (wipe (wipe A (2 + c * 1) (2 + 16 * 1)) (18 + n * 1) (18 + 8 * 1)) (26 + n * 8) (26 + 8 * 8))[0]? = some (.int .i64 n) := by rw [wipe_get _ _ _ _ (by omega) (by omega), if_neg (by omega), b1]
  generalize wipe (wipe (wipe A (2 + c * 1) (2 + 16 * 1)) (18 + n * 1) (18 + 8 * 1)) (26 + n * 8) (26 + 8 * 8) = B3 at k3 b2 C3
  generalize wipe (wipe A (2 + c * 1) (2 + 16 * 1)) (18 + n * 1) (18 + 8 * 1) = B2 at k2 k3 b1
  generalize wipe A (2 + c * 1) (2 + 16 * 1) = B1 at k1 k2 b0
  clear K1 K2 K3 z1 z2 z
  have KL := Lib.hid (fun B k T m (hB : B.size = 94) => run_clear_from (P := Try.prog) (s := 1) Try.underlying37 zero3 rfl (by decide) T w.heap.size (26 + k * 8) 8 n hn2 (bareW w B Z m) B _ (bareW_own w B Z m))
  have HC := Lib.hid C3
  clear C3
  unfold bareW at k1 k2 k3
  simp only [World.drewN_zero] at k1 k2 k3
  go_enter Try.func50, Try.ntmps50
  go_wp2_with (fail)
  go_loopw [3, 18] (fun _ x wr => ∃ k : Nat, ∃ B m, k ≤ n ∧ x = .int .i64 k ∧ Hid (Cfg B (bareR g c n k)) ∧ wr = ((w.alloc (.cells B 26)).alloc (.cells Z 26)).drewN m) (fun _ x _ => n - (intOf x).toNat)
  case atStart => exact ⟨0, B3, 0, Nat.zero_le _, rfl, HC, rfl⟩
  case round =>
    obtain ⟨k, B, m, hk, rfl, HK, rfl⟩ := hrel
    by_cases hlt : k < n
    · have e0 : B[0]? = some (.int .i64 n) := by
        rw [← H0.out]; exact HK.out.get 0 (by decide)
      have HN := Lib.hid (bare_step hn2 hlt HK.out)
      have kk := fun T m => KL.out B k T m HK.out.size (by rw [HK.out.size]; omega)
      simp only [bareW_set] at kk
      unfold bareW at kk
      generalize wipe B (26 + k * 8 + n * 1) (26 + k * 8 + 8 * 1) = B' at HN kk
      go_wp2_with (fail)
      refine still_tail 6 (by kernel_rfl) (by kernel_rfl) ?_
      simp only [List.take_succ_cons, List.take_zero, List.drop_succ_cons, List.drop_zero]
      have ik : (k : Int) < 8 := by omega
      repeat still_step
      refine wpStill_nil ?_
      go_wp2_with (fail)
      go_roundw
      case rel => exact ⟨k + 1, B', _, by omega, by go_num, HN, rfl⟩
      case measure => simp [intOf]; omega
    · obtain rfl : k = n := by omega
      have HL := Lib.hid (bareW_own w B Z m)
      have HI := Lib.hid (show (Try.prog.info? 26).map (·.size) = some B.size by rw [HK.out.size]; kernel_rfl)
      have HS := Lib.hid (show (storeVar 26 ⟨w.heap.size + 1, 0, none⟩ (.agg B)).run Try.prog (bareW w B Z m) = .ok () (bareW w B B m) by
        rw [run_storeVar_row _ _ _ _ Z B (bareW_res w B Z m) (by rw [HK.out.size]; kernel_rfl) (by rw [HZ.out, HK.out.size]) HK.out.one]
        show Result.ok () (((w.alloc _).alloc _).setRow (w.heap.size + 1) B |>.drewN m) = _
        rw [show w.heap.size + 1 = (w.alloc (.cells B 26)).heap.size by simp, World.setRow_alloc_new]; rfl)
      have HR := Lib.hid (bareW_res w B B m)
      unfold bareW at HL HS HR
      clear k1 k2 k3
      go_wp2_with (first
        | (refine wpList_load_row rfl 26 _ rfl w.heap.size rfl 26 B (0, 0) _ HL.out Try.underlying26 rfl HI.out ?_)
        | (refine wpList_store_run rfl 26 _ _ rfl (w.heap.size + 1) B _ rfl rfl HS.out ?_))
      refine bodyPost_ret (v := .agg B) ?_ rfl ⟨B, rfl, by rw [HG.out]; exact HK.out, ?_⟩
      · exact results_cell_row rfl _ _ _ _ B (0, 0) _ rfl HR.out Try.underlying26 rfl HI.out
      · exact below_drewN (((Below.refl _ _).alloc (Nat.le_refl _) _).alloc (by simp) _) _
end
/-! Two configs compared. -/
section
open Go.RowKit Go

theorem forIn_all {P : Program} {w : World} {β : Type} (F : Nat → β → Sem (ForInStep β)) (b : Nat → Bool) (r0 r1 : β) : ∀ (l : List Nat), (∀ i ∈ l, (F i r0).run P w = .ok (if b i then .yield r0 else .done r1) w) →
    (forIn l r0 F).run P w = .ok (if l.all b then r0 else r1) w
  | [], _ => by simp
  | i :: l, h => by
    rw [List.forIn_cons, Sem.run_bind, h i (by simp)]
    by_cases hb : b i = true
    · simp only [hb, if_true, Result.andThen_ok, List.all_cons, Bool.true_and]
      exact forIn_all F b r0 r1 l (fun j hj => h j (by simp [hj]))
    · simp [hb]

theorem run_equalIn_array {P : Program} (w : World) {d : Nat} {t e : TypeId} {len n : Nat} (xs ys : Array Value) (b : Nat → Bool) (ht : P.underlying t = some (.array len e)) (hs : ∀ w, (sizeOf e).run P w = .ok n w)
    (hq : ∀ i, i < len → ∃ u v, (part e xs (i * n)).run P w = .ok u w ∧ (part e ys (i * n)).run P w = .ok v w ∧ (Op.equalIn d e u v).run P w = .ok (b i) w) :
    (Op.equalIn (d + 1) t (.agg xs) (.agg ys)).run P w = .ok (allR len b) w := by
  simp only [Op.equalIn, Sem.run_bind, run_underlying ht, Result.andThen_ok, hs]
  rw [Std.Legacy.Range.forIn_eq_forIn_range']
  have hb : ∀ i, i < len → ∃ u v, (part e xs (i * n)).run P w = .ok u w ∧ (part e ys (i * n)).run P w = .ok v w ∧ (Op.equalIn d e u v).run P w = .ok (b i) w := hq
  rw [forIn_all (P := P) (w := w) _ b (none, ()) (some false, ()) _ (fun i hi => by
    obtain ⟨u, v, h1, h2, h3⟩ := hb i (by simpa using hi)
    simp only [Sem.run_bind, h1, h2, h3, Result.andThen_ok]
    cases b i <;> simp)]
  have el : (List.range' (0 : Nat) len 1) = List.range len := by rw [List.range_eq_range']
  simp only [Result.andThen_ok, Std.Legacy.Range.size, Nat.sub_zero, Nat.add_sub_cancel, Nat.div_one, el]
  unfold allR
  cases (List.range len).all b <;> simp

theorem part_int {P : Program} {w : World} {t : TypeId} {xs : Array Value} {o : Nat} {x : Value} (ha : ∀ w, (isAgg t).run P w = .ok false w) (h : xs[o]? = some x) : (part t xs o).run P w = .ok x w := by
  simp [part, Sem.run_bind, ha, h]
theorem part_agg {P : Program} {w : World} {t : TypeId} {xs : Array Value} {o n : Nat} (ha : ∀ w, (isAgg t).run P w = .ok true w) (hs : ∀ w, (sizeOf t).run P w = .ok n w) : (part t xs o).run P w = .ok (.agg (xs.extract o (o + n))) w := by
  simp [part, Sem.run_bind, ha, hs]

theorem eqFields_step {P : Program} {w : World} {d : Nat} {xs ys : Array Value} {f : Field} {fs : List Field} {u v : Value} {b c : Bool} (hn : f.name ≠ "_") (h1 : (part f.type xs f.offset).run P w = .ok u w) (h2 : (part f.type ys f.offset).run P w = .ok v w)
    (h3 : (Op.equalIn d f.type u v).run P w = .ok b w) (h4 : (Op.eqFields d xs ys fs).run P w = .ok c w) : (Op.eqFields d xs ys (f :: fs)).run P w = .ok (b && c) w := by
  simp only [Op.eqFields, hn, ne_eq, not_false_eq_true, if_true, Sem.run_bind, h1, h2, h3, Result.andThen_ok]
  cases b <;> simp [h4]

/-- An array of ints of the one compared with that of the other. -/
theorem equal_ints {P : Program} (w : World) {d : Nat} {t e : TypeId} {len : Nat} {xs ys : Array Value} (f h : Nat → Int) (ht : P.underlying t = some (.array len e)) (hu : P.underlying e = some (.int .i64)) (hs : ∀ w, (sizeOf e).run P w = .ok 1 w) (ha : ∀ w, (isAgg e).run P w = .ok false w)
    (hx : ∀ i, i < len → xs[i]? = some (.int .i64 (f i))) (hy : ∀ i, i < len → ys[i]? = some (.int .i64 (h i))) :
    (Op.equalIn (d + 2) t (.agg xs) (.agg ys)).run P w = .ok (allR len fun i => f i == h i) w :=
  run_equalIn_array w xs ys _ ht hs (fun i hi => ⟨_, _, part_int ha (by rw [Nat.mul_one]; exact hx i hi), part_int ha (by rw [Nat.mul_one]; exact hy i hi), run_equalIn_int w d e .i64 .i64 _ _ hu⟩)

/-- Two configs are alike. -/
def cfgEq (g h : Nat → Int) : Bool :=
  (g 0 == h 0) && ((g 1 == h 1) && ((allR 16 fun i => g (2 + i) == h (2 + i)) && ((allR 8 fun i => g (18 + i) == h (18 + i)) && ((allR 8 fun a => allR 8 fun i => g (26 + a * 8 + i) == h (26 + a * 8 + i)) &&
    ((g 90 == h 90) && ((g 91 == h 91) && ((g 92 == h 92) && ((g 93 == h 93) && true))))))))
set_option maxRecDepth 100000 in
theorem agg3 (w : World) : (isAgg 3).run Try.prog w = .ok false w := by kernel_rfl
set_option maxRecDepth 100000 in
theorem agg23 (w : World) : (isAgg 23).run Try.prog w = .ok true w := by kernel_rfl
set_option maxRecDepth 100000 in
theorem agg22 (w : World) : (isAgg 22).run Try.prog w = .ok true w := by kernel_rfl
set_option maxRecDepth 100000 in
theorem agg24 (w : World) : (isAgg 24).run Try.prog w = .ok true w := by kernel_rfl
set_option maxRecDepth 100000 in
theorem size22 (w : World) : (sizeOf 22).run Try.prog w = .ok 16 w := by kernel_rfl
set_option maxRecDepth 100000 in
theorem size24 (w : World) : (sizeOf 24).run Try.prog w = .ok 64 w := by kernel_rfl

theorem Cfg.part {A : Array Value} {g : Nat → Int} (C : Cfg A g) (o n : Nat) (h : o + n ≤ 94) (i : Nat) (hi : i < n) : (A.extract o (o + n))[i]? = some (.int .i64 (g (o + i))) := by
  rw [Array.getElem?_extract, if_pos (by rw [C.size]; omega)]
  exact C.get _ (by omega)

set_option maxRecDepth 100000 in
theorem equal_cfg (w : World) (A B : Array Value) (g h : Nat → Int) (CA : Cfg A g) (CB : Cfg B h) :
    (Op.equalIn 10000 26 (.agg A) (.agg B)).run Try.prog w = .ok (cfgEq g h) w := by
  rw [show (10000 : Nat) = 9999 + 1 from rfl, run_equalIn_struct w 9999 26 A B (by kernel_rfl) (by kernel_rfl)]
  have int1 : ∀ o, o < 94 → (Op.equalIn 9999 3 (.int .i64 (g o)) (.int .i64 (h o))).run Try.prog w = .ok (g o == h o) w := fun o _ => run_equalIn_int w 9998 3 .i64 .i64 _ _ Try.underlying3
  have one : ∀ o, o < 94 → (part 3 A o).run Try.prog w = .ok (.int .i64 (g o)) w ∧ (part 3 B o).run Try.prog w = .ok (.int .i64 (h o)) w := fun o ho => ⟨part_int agg3 (CA.get o ho), part_int agg3 (CB.get o ho)⟩
  unfold cfgEq
  rw [show (Try.prog.fieldsOf 26).toList = [⟨ "Nodes", 3, 0, false, "", "", 0⟩, ⟨ "CPUs", 3, 1, false, "", "", 8⟩, ⟨ "Home", 22, 2, false, "", "", 16⟩, ⟨ "Frames", 23, 18, false, "", "", 144⟩,
    ⟨ "Distance", 24, 26, false, "", "", 208⟩, ⟨ "Slots", 3, 90, false, "", "", 720⟩, ⟨ "Min", 3, 91, false, "", "", 728⟩, ⟨ "Low", 3, 92, false, "", "", 736⟩, ⟨ "High", 3, 93, false, "", "", 744⟩] by kernel_rfl]
  refine eqFields_step (by decide) (one 0 (by decide)).1 (one 0 (by decide)).2 (int1 0 (by decide)) ?_
  refine eqFields_step (by decide) (one 1 (by decide)).1 (one 1 (by decide)).2 (int1 1 (by decide)) ?_
  refine eqFields_step (by decide) (part_agg agg22 size22) (part_agg agg22 size22)
    (equal_ints w _ _ Try.underlying22 Try.underlying3 size3 agg3 (CA.part 2 16 (by decide)) (CB.part 2 16 (by decide))) ?_
  refine eqFields_step (by decide) (part_agg agg23 size23) (part_agg agg23 size23)
    (equal_ints w _ _ Try.underlying23 Try.underlying3 size3 agg3 (CA.part 18 8 (by decide)) (CB.part 18 8 (by decide))) ?_
  refine eqFields_step (by decide) (part_agg agg24 size24) (part_agg agg24 size24) (run_equalIn_array (d := 9998) w _ _ (fun a => allR 8 fun i => g (26 + a * 8 + i) == h (26 + a * 8 + i)) Try.underlying24 size23 (fun a ha =>
    ⟨_, _, part_agg agg23 size23, part_agg agg23 size23,
      equal_ints w (fun i => g (26 + a * 8 + i)) (fun i => h (26 + a * 8 + i)) Try.underlying23 Try.underlying3 size3 agg3
        (fun i hi => by rw [Array.getElem?_extract, if_pos (by simp [CA.size]; omega), CA.part 26 64 (by decide) _ (by omega), Nat.add_assoc])
        (fun i hi => by rw [Array.getElem?_extract, if_pos (by simp [CB.size]; omega), CB.part 26 64 (by decide) _ (by omega), Nat.add_assoc])⟩)) ?_
  refine eqFields_step (by decide) (one 90 (by decide)).1 (one 90 (by decide)).2 (int1 90 (by decide)) ?_
  refine eqFields_step (by decide) (one 91 (by decide)).1 (one 91 (by decide)).2 (int1 91 (by decide)) ?_
  refine eqFields_step (by decide) (one 92 (by decide)).1 (one 92 (by decide)).2 (int1 92 (by decide)) ?_
  refine eqFields_step (by decide) (one 93 (by decide)).1 (one 93 (by decide)).2 (int1 93 (by decide)) ?_
  rfl

theorem cfgEq_iff (g h : Nat → Int) : cfgEq g h = true ↔ ∀ i, i < 94 → g i = h i := by
  constructor
  · intro e i hi
    simp only [cfgEq, Bool.and_eq_true, beq_iff_eq, and_true] at e
    obtain ⟨e0, e1, e2, e3, e4, e5, e6, e7, e8⟩ := e
    have f2 := of_allR e2
    have f3 := of_allR e3
    have f4 := of_allR e4
    by_cases a1 : i < 2
    · rcases (show i = 0 ∨ i = 1 by omega) with rfl | rfl <;> assumption
    · by_cases a2 : i < 18
      · have := f2 (i - 2) (by omega)
        rw [show 2 + (i - 2) = i by omega] at this
        simpa using this
      · by_cases a3 : i < 26
        · have := f3 (i - 18) (by omega)
          rw [show 18 + (i - 18) = i by omega] at this
          simpa using this
        · by_cases a4 : i < 90
          · have := of_allR (f4 ((i - 26) / 8) (by omega)) ((i - 26) % 8) (by omega)
            rw [show 26 + (i - 26) / 8 * 8 + (i - 26) % 8 = i by omega] at this
            simpa using this
          · rcases (show i = 90 ∨ i = 91 ∨ i = 92 ∨ i = 93 by omega) with rfl | rfl | rfl | rfl <;> assumption
  · intro e
    simp only [cfgEq, Bool.and_eq_true, beq_iff_eq, and_true]
    exact ⟨e 0 (by decide), e 1 (by decide), allR_true (fun i hi => by simpa using e _ (by omega)), allR_true (fun i hi => by simpa using e _ (by omega)),
      allR_true (fun a ha => allR_true (fun i hi => by simpa using e _ (by omega))), e 90 (by decide), e 91 (by decide), e 92 (by decide), e 93 (by decide)⟩
end
/-! May: whether a config may be. -/
section
open Go.RowKit Go

theorem Cfg.unique {A B : Array Value} {g : Nat → Int} (h1 : Cfg A g) (h2 : Cfg B g) : A = B := by
  apply Array.ext_getElem?
  intro i
  by_cases h : i < 94
  · rw [h1.get i h, h2.get i h]
  · rw [Array.getElem?_eq_none (by rw [h1.size]; omega), Array.getElem?_eq_none (by rw [h2.size]; omega)]
theorem Cfg.of (g : Nat → Int) : ∃ A, Cfg A g := ⟨Array.ofFn (n := 94) fun i => Value.int .i64 (g i), by simp, fun i h => by simp [h]⟩

/-- May. -/
def mayB (g : Nat → Int) : Bool :=
  withinB (g 0) 1 8 && (withinB (g 1) 1 16 && (withinB (g 90) 0 1024 && (homesB g && (framesB g && (distB g && (waterB g && cfgEq g (bareG g)))))))

theorem of_withinB {n a b : Int} (h : withinB n a b = true) : a ≤ n ∧ n ≤ b := of_decide_eq_true h

/-- What the walk of May knows: the block of the config, seen in every world of the class. -/
structure MayHere (A : Array Value) (g : Nat → Int) (w : World) : Prop where
  n : ∀ W, Kept (w.heap.size + 1) (w.alloc (.cells A 26)) W → (loadVar 3 ⟨w.heap.size, 0, none⟩).run Try.prog W = .ok (.int .i64 (g 0)) W
  c : ∀ W, Kept (w.heap.size + 1) (w.alloc (.cells A 26)) W → (loadVar 3 ⟨w.heap.size, 1, none⟩).run Try.prog W = .ok (.int .i64 (g 1)) W
  s : ∀ W, Kept (w.heap.size + 1) (w.alloc (.cells A 26)) W → (loadVar 3 ⟨w.heap.size, 90, none⟩).run Try.prog W = .ok (.int .i64 (g 90)) W
  all : ∀ W, Kept (w.heap.size + 1) (w.alloc (.cells A 26)) W → (loadVar 26 ⟨w.heap.size, 0, none⟩).run Try.prog W = .ok (.agg A) W
theorem mayHere {A : Array Value} {g : Nat → Int} (C : Cfg A g) (w : World) : MayHere A g w := by
  have hc : ∀ i, i < 94 → ∀ W, Kept (w.heap.size + 1) (w.alloc (.cells A 26)) W → (loadVar 3 ⟨w.heap.size, i, none⟩).run Try.prog W = .ok (.int .i64 (g i)) W := fun i hi W hW =>
    run_loadVar_cell agg3 (by rw [hW.cell (by omega), cell_of_row _ _ _ _ _ _ (heap_alloc_new w _)]; exact C.get i hi)
  refine ⟨hc 0 (by decide), hc 1 (by decide), hc 90 (by decide), fun W hW => ?_⟩
  exact run_loadVar_row W w.heap.size 26 _ A (0, 0) _ (by rw [hW.below.block _ (by omega)]; exact heap_alloc_new w _) Try.underlying26 rfl (by rw [C.size]; kernel_rfl)

set_option maxRecDepth 100000 in
theorem within_kept {B : Nat} {w W : World} {n a b : Int} {v : Bool} (h : withinB n a b = v) (hW : Kept B w W) :
    Calls Try.prog 45 #[.int .i64 n, .int .i64 a, .int .i64 b] W fun e w' => e = .returned (.bool v) ∧ Kept B w w' :=
  (within_is h W).mono fun _ _ ⟨h1, h2⟩ => ⟨h1, h2 ▸ hW⟩

set_option maxRecDepth 100000 in
theorem homes_kept {B : Nat} {w W : World} {A : Array Value} {g : Nat → Int} {v : Bool} (hA : Cfg A g) (h0 : withinB (g 0) 1 8 = true) (h1 : withinB (g 1) 1 16 = true) (h : homesB g = v) (hB : B ≤ w.heap.size) (hW : Kept B w W) :
    Calls Try.prog 46 #[.agg A] W fun e w' => e = .returned (.bool v) ∧ Kept B w w' :=
  (homes_any A g W hA (of_withinB h0).1 (of_withinB h0).2 (of_withinB h1).1 (of_withinB h1).2).mono fun _ _ ⟨e, b⟩ => ⟨h ▸ e, hW.call hB b⟩
set_option maxRecDepth 100000 in
theorem frames_kept {B : Nat} {w W : World} {A : Array Value} {g : Nat → Int} {v : Bool} (hA : Cfg A g) (h0 : withinB (g 0) 1 8 = true) (h : framesB g = v) (hB : B ≤ w.heap.size) (hW : Kept B w W) :
    Calls Try.prog 47 #[.agg A] W fun e w' => e = .returned (.bool v) ∧ Kept B w w' :=
  (framesMay_any A g W hA (of_withinB h0).1 (of_withinB h0).2).mono fun _ _ ⟨e, b⟩ => ⟨h ▸ e, hW.call hB b⟩
set_option maxRecDepth 100000 in
theorem dist_kept {B : Nat} {w W : World} {A : Array Value} {g : Nat → Int} {v : Bool} (hA : Cfg A g) (h0 : withinB (g 0) 1 8 = true) (h : distB g = v) (hB : B ≤ w.heap.size) (hW : Kept B w W) :
    Calls Try.prog 48 #[.agg A] W fun e w' => e = .returned (.bool v) ∧ Kept B w w' :=
  (dist_any A g W hA (of_withinB h0).1 (of_withinB h0).2).mono fun _ _ ⟨e, b⟩ => ⟨h ▸ e, hW.call hB b⟩
set_option maxRecDepth 100000 in
theorem water_kept {B : Nat} {w W : World} {A : Array Value} {g : Nat → Int} {v : Bool} (hA : Cfg A g) (h0 : withinB (g 0) 1 8 = true) (h : waterB g = v) (hB : B ≤ w.heap.size) (hW : Kept B w W) :
    Calls Try.prog 49 #[.agg A] W fun e w' => e = .returned (.bool v) ∧ Kept B w w' :=
  (water_any A g W hA (of_withinB h0).1 (of_withinB h0).2).mono fun _ _ ⟨e, b⟩ => ⟨h ▸ e, hW.call hB b⟩
set_option maxRecDepth 100000 in
theorem bare_kept {B : Nat} {w W : World} {A A2 : Array Value} {g : Nat → Int} (hA : Cfg A g) (hA2 : Cfg A2 (bareG g)) (h0 : withinB (g 0) 1 8 = true) (h1 : withinB (g 1) 1 16 = true) (hB : B ≤ w.heap.size) (hW : Kept B w W) :
    Calls Try.prog 50 #[.agg A] W fun e w' => e = .returned (.agg A2) ∧ Kept B w w' :=
  (bare_any A g W hA (of_withinB h0).1 (of_withinB h0).2 (of_withinB h1).1 (of_withinB h1).2).mono fun _ _ ⟨_, e, c, b⟩ => ⟨(c.unique hA2) ▸ e, hW.call hB b⟩

theorem kept_new {w : World} {ob : Obj} {W : World} (h : Kept (w.heap.size + 1) (w.alloc ob) W) : Below w.heap.size w W :=
  ((Below.refl w.heap.size w).alloc (Nat.le_refl _) ob).trans (h.below.mono (by omega))

set_option maxRecDepth 100000 in
set_option maxHeartbeats 4000000 in
theorem may_any (A : Array Value) (g : Nat → Int) (w : World) (hA : Cfg A g) :
    Calls Try.prog 23 #[.agg A] w fun e w' => e = .returned (.bool (mayB g)) ∧ Below w.heap.size w w' := by
  have M := mayHere hA w
  have HA := Lib.hid hA
  obtain ⟨A2, hA2⟩ := Cfg.of (bareG g)
  have HA2 := Lib.hid hA2
  have hq := fun W => equal_cfg W A A2 g (bareG g) hA hA2
  have hB : w.heap.size + 1 ≤ (w.alloc (.cells A 26)).heap.size := by simp
  have HM := Lib.hid (show mayB g = (withinB (g 0) 1 8 && (withinB (g 1) 1 16 && (withinB (g 90) 0 1024 && (homesB g && (framesB g && (distB g && (waterB g && cfgEq g (bareG g)))))))) from rfl)
  cases h0 : withinB (g 0) 1 8
  rotate_left
  cases h1 : withinB (g 1) 1 16
  rotate_left
  cases h2 : withinB (g 90) 0 1024
  rotate_left
  cases h3 : homesB g
  rotate_left
  cases h4 : framesB g
  rotate_left
  cases h5 : distB g
  rotate_left
  cases h6 : waterB g
  rotate_left
  cases h7 : cfgEq g (bareG g)
  all_goals
    obtain ⟨v, hv⟩ : ∃ v, mayB g = v := ⟨_, rfl⟩
    have HV := Lib.hid hv
    rw [HM.out] at hv
    simp only [*, Bool.true_and, Bool.false_and] at hv
    subst hv
    try rw [h7] at hq
    clear HM hA hA2
    have H0 := Lib.hid h0
    clear h0
    try (have H1 := Lib.hid h1; clear h1)
    try (have H2 := Lib.hid h2; clear h2)
    try (have H3 := Lib.hid h3; clear h3)
    try (have H4 := Lib.hid h4; clear h4)
    try (have H5 := Lib.hid h5; clear h5)
    try (have H6 := Lib.hid h6; clear h6)
    try (have H7 := Lib.hid h7; clear h7)
    go_enter Try.func23, Try.ntmps23
    go_wp2_with (fail)
    refine wp_region_kept (w.heap.size + 1) (by kernel_rfl) (by kernel_rfl) ?_
    repeat (first
      | go_big_quiet_skip
      | (go_big_quiet_want; first
        | (refine quiet_load _ _ rfl rfl M.n ?_; simp only [Act.put, List.setIfInBounds_toArray, List.set_cons_zero, List.set_cons_succ]; go_big_quiet_on)
        | (refine quiet_load _ _ rfl rfl M.c ?_; simp only [Act.put, List.setIfInBounds_toArray, List.set_cons_zero, List.set_cons_succ]; go_big_quiet_on)
        | (refine quiet_load _ _ rfl rfl M.s ?_; simp only [Act.put, List.setIfInBounds_toArray, List.set_cons_zero, List.set_cons_succ]; go_big_quiet_on)
        | (refine quiet_load _ _ rfl rfl M.all ?_; simp only [Act.put, List.setIfInBounds_toArray, List.set_cons_zero, List.set_cons_succ]; go_big_quiet_on)
        | (go_big_quiet_op; first | go_big_quiet_on | (refine ⟨_, fun _ _ => rfl, ?_⟩; go_big_quiet_on) | go_big_quiet_call ((intro hC; first
          | (go_at_call 45; first | exact within_kept H0.out hC | exact within_kept H1.out hC | exact within_kept H2.out hC)
          | (go_at_call 46; exact homes_kept HA.out H0.out H1.out H3.out hB hC)
          | (go_at_call 47; exact frames_kept HA.out H0.out H4.out hB hC)
          | (go_at_call 48; exact dist_kept HA.out H0.out H5.out hB hC)
          | (go_at_call 49; exact water_kept HA.out H0.out H6.out hB hC)
          | (go_at_call 50; exact bare_kept HA.out HA2.out H0.out H1.out hB hC))))))
    refine wpQuiet_nil ?_
    intro W hC
    have HC := Lib.hid (kept_new hC)
    clear hC hq
    go_wp2_with (fail)
    go_ret
    exact ⟨by rw [HV.out]; rfl, HC.out⟩
end
/-! before, Total, asked, First, Node. -/
section
open Go.RowKit Go

set_option maxRecDepth 100000 in
/-- A whole config out of its block. -/
theorem wpList_load_cfg {ops : Array Oper} {rest : List Oper} {o : Oper} {a : Act} {w : World} {Q : Exit → Act → World → Prop} {A : Array Value} {g : Nat → Int} (hw : Region.wanted o (yielded ops a.tmps) = true) (x : Operand) (ho : o.op = .load 26 x) (b : Nat) (hx : a.eval x = .pointer (some ⟨b, 0, none⟩))
    (C : CfgAt w b A g) (h : wpList Try.prog ops Q rest (a.put o.dst (.agg A)) w) : wpList Try.prog ops Q (o :: rest) a w :=
  BigFrame.wpList_want hw fun _ hK => wp_load_row 26 x ho b hx 26 A (0, 0) _ C.block Try.underlying26 rfl (by rw [C.cfg.size]; kernel_rfl) (hK _ _ h)

/-- What a config that may be has. -/
structure Good (g : Nat → Int) : Prop where
  n1 : 1 ≤ g 0
  n2 : g 0 ≤ 8
  c1 : 1 ≤ g 1
  c2 : g 1 ≤ 16
  s1 : 0 ≤ g 90
  s2 : g 90 ≤ 1024
  home : ∀ i : Nat, (i : Int) < g 1 → 0 ≤ g (2 + i) ∧ g (2 + i) ≤ g 0 - 1
  frames : ∀ i : Nat, (i : Int) < g 0 → 4 ≤ g (18 + i) ∧ g (18 + i) ≤ 128
  self : ∀ a : Nat, (a : Int) < g 0 → g (26 + a * 8 + a) = 0
  dist : ∀ a b : Nat, (a : Int) < g 0 → b < a → g (26 + a * 8 + b) = g (26 + b * 8 + a) ∧ 1 ≤ g (26 + a * 8 + b) ∧ g (26 + a * 8 + b) ≤ 255
  min0 : 0 ≤ g 91
  low : g 91 ≤ g 92
  high : g 92 ≤ g 93
  least : ∀ i : Nat, (i : Int) < g 0 → g 93 ≤ g (18 + i)
  behind : ∀ i, i < 94 → g i = bareG g i

theorem good_iff (g : Nat → Int) : mayB g = true ↔ Good g := by
  constructor
  · intro h
    simp only [mayB, Bool.and_eq_true] at h
    obtain ⟨h0, h1, h2, h3, h4, h5, h6, h7⟩ := h
    have e0 := of_withinB h0
    have e1 := of_withinB h1
    have e2 := of_withinB h2
    have e3 := of_allR h3
    have e4 := of_allR h4
    have e5 := of_allR h5
    simp only [waterB, Bool.and_eq_true, decide_eq_true_eq] at h6
    obtain ⟨f0, f1, f2, f3⟩ := h6
    have f4 := (le_minR _ _ _).1 f3
    refine ⟨e0.1, e0.2, e1.1, e1.2, e2.1, e2.2, fun i hi => of_withinB (e3 i (by omega)), fun i hi => of_withinB (e4 i (by omega)), fun a ha => ?_, fun a b ha hb => ?_, f0, f1, f2, fun i hi => f4 i (by omega), (cfgEq_iff _ _).1 h7⟩
    · have := e5 a (by omega)
      simp only [rowB, Bool.and_eq_true] at this
      simpa using this.1
    · have := e5 a (by omega)
      simp only [rowB, Bool.and_eq_true] at this
      have := of_allR this.2 b hb
      simp only [pairB, Bool.and_eq_true] at this
      have h8 := of_withinB this.2
      exact ⟨by simpa using this.1, h8.1, h8.2⟩
  · intro G
    have n1 := G.n1
    have n2 := G.n2
    have c1 := G.c1
    simp only [mayB, Bool.and_eq_true]
    refine ⟨decide_eq_true ⟨G.n1, G.n2⟩, decide_eq_true ⟨G.c1, G.c2⟩, decide_eq_true ⟨G.s1, G.s2⟩, allR_true (fun i hi => decide_eq_true (G.home i (by omega))), allR_true (fun i hi => decide_eq_true (G.frames i (by omega))), allR_true (fun a ha => ?_), ?_, (cfgEq_iff _ _).2 G.behind⟩
    · simp only [rowB, Bool.and_eq_true]
      refine ⟨by simpa using G.self a (by omega), allR_true (fun b hb => ?_)⟩
      simp only [pairB, Bool.and_eq_true]
      obtain ⟨d1, d2, d3⟩ := G.dist a b (by omega) hb
      exact ⟨by simpa using d1, decide_eq_true ⟨d2, d3⟩⟩
    · simp only [waterB, Bool.and_eq_true, decide_eq_true_eq]
      exact ⟨G.min0, G.low, G.high, (le_minR _ _ _).2 (fun i hi => G.least i (by omega))⟩

/-- The frames of the first k nodes. -/
def sumF (g : Nat → Int) : Nat → Int
  | 0 => 0
  | k + 1 => sumF g k + g (18 + k)
theorem sumF_bd (g : Nat → Int) : ∀ k, (∀ i, i < k → 0 ≤ g (18 + i) ∧ g (18 + i) ≤ 128) → 0 ≤ sumF g k ∧ sumF g k ≤ 128 * k
  | 0, _ => by simp [sumF]
  | k + 1, h => by
    have h1 := sumF_bd g k (fun i hi => h i (by omega))
    have h2 := h k (by omega)
    unfold sumF
    omega

set_option maxRecDepth 100000 in
theorem before_any (A : Array Value) (g : Nat → Int) (k : Nat) (w : World) (hA : Cfg A g) (hk : k ≤ 8) (hf : ∀ i, i < k → 0 ≤ g (18 + i) ∧ g (18 + i) ≤ 128) :
    Calls Try.prog 71 #[.agg A, .int .i64 k] w fun e w' => e = .returned (.int .i64 (sumF g k)) ∧ Below w.heap.size w w' := by
  have HA := Lib.hid hA
  have HF := Lib.hid hf
  clear hA hf
  have hsl := run_slice_to (P := Try.prog) Try.underlying23 size3 k hk
  go_enter Try.func71, Try.ntmps71
  go_wp2_with (fail)
  go_loop [5, 7, 12] (fun s _ x => ∃ j : Nat, j ≤ k ∧ x = .int .i64 j ∧ s = .int .i64 (sumF g j)) (fun _ _ x => k - (intOf x).toNat)
  case atStart => exact ⟨0, Nat.zero_le _, rfl, rfl⟩
  case round =>
    obtain ⟨j, hj, rfl, rfl⟩ := hrel
    by_cases hlt : j < k
    · have aj : A[18 + j]? = some (.int .i64 (g (18 + j))) := HA.out.get _ (by omega)
      obtain ⟨b1, b2⟩ := sumF_bd g j (fun i hi => HF.out i (by omega))
      obtain ⟨b3, b4⟩ := HF.out j hlt
      have HS := Lib.hid (show sumF g (j + 1) = sumF g j + g (18 + j) from rfl)
      generalize sumF g j = s at b1 b2 HS
      generalize g (18 + j) = x at aj b3 b4 HS
      go_wp2_with (fail)
      go_round
      case rel => exact ⟨j + 1, hlt, by go_num, by rw [HS.out]⟩
      case measure => simp [intOf]; omega
    · obtain rfl : j = k := by omega
      go_wp2_with (fail)
      go_ret
      exact ⟨rfl, (Below.refl _ _).alloc (Nat.le_refl _) _⟩

/-- Total. -/
def totalI (g : Nat → Int) : Int := if mayB g = true then sumF g (g 0).toNat else 0
end
/-! The document's own answer: whether a config may be. -/
section
open Go.RowKit Go

def homeR (g : Nat → Int) (i : Nat) : Bool := if (i : Int) < g 1 then decide (0 ≤ g (2 + i)) && decide (g (2 + i) < g 0) else g (2 + i) == 0
def frameR (g : Nat → Int) (i : Nat) : Bool := if (i : Int) < g 0 then decide (4 ≤ g (18 + i)) && (decide (g (18 + i) ≤ 128) && decide (g 93 ≤ g (18 + i))) else g (18 + i) == 0
def cellR (g : Nat → Int) (i k : Nat) : Bool :=
  if (i : Int) < g 0 ∧ (k : Int) < g 0 ∧ i ≠ k then decide (1 ≤ g (26 + i * 8 + k)) && (decide (g (26 + i * 8 + k) ≤ 255) && g (26 + i * 8 + k) == g (26 + k * 8 + i)) else g (26 + i * 8 + k) == 0
def rowR (g : Nat → Int) (i : Nat) : Bool := frameR g i && allR 8 (cellR g i)
def headR (g : Nat → Int) : Bool := withinB (g 0) 1 8 && (withinB (g 1) 1 16 && withinB (g 90) 0 1024)
def tailR (g : Nat → Int) : Bool := decide (0 ≤ g 91) && (decide (g 91 ≤ g 92) && decide (g 92 ≤ g 93))
def mayR (g : Nat → Int) : Bool := headR g && (allR 16 (homeR g) && (allR 8 (rowR g) && tailR g))

theorem bareG_at (g : Nat → Int) (c n : Nat) (hc : g 1 = c) (hn : g 0 = n) (i : Nat) : bareG g i =
    if i < 2 then g i else if i < 18 then (if i < 2 + c then g i else 0) else if i < 26 then (if i < 18 + n then g i else 0)
    else if i < 90 then (if (i - 26) / 8 < n ∧ (i - 26) % 8 < n then g i else 0) else g i := by
  unfold bareG
  rw [hc, hn]
  simp only [Int.toNat_natCast]
  unfold bareR
  by_cases a1 : i < 2
  · simp only [a1, if_true]
  · simp only [a1, if_false]
    by_cases a2 : i < 18
    · simp only [a2, if_true]
    · simp only [a2, if_false]
      by_cases a3 : i < 26
      · simp only [a3, if_true]
      · simp only [a3, if_false]
        by_cases a4 : i < 90
        · simp only [a4, if_true]
          by_cases a5 : (i - 26) / 8 < n
          · by_cases a6 : (i - 26) % 8 < n
            · rw [if_pos a5, if_neg (by omega), if_pos ⟨a5, a6⟩]
            · rw [if_pos a5, if_pos (by omega), if_neg (by omega)]
          · rw [if_neg a5, if_neg (by omega)]
        · simp only [a4, if_false]

theorem mayR_good (g : Nat → Int) : mayR g = true ↔ Good g := by
  constructor
  · intro h
    simp only [mayR, headR, tailR, Bool.and_eq_true, decide_eq_true_eq] at h
    obtain ⟨⟨h0, h1, h2⟩, h3, h4, h5, h6, h7⟩ := h
    have e0 := of_withinB h0
    have e1 := of_withinB h1
    have e2 := of_withinB h2
    obtain ⟨n, hn⟩ := Int.eq_ofNat_of_zero_le (show 0 ≤ g 0 by omega)
    obtain ⟨c, hc⟩ := Int.eq_ofNat_of_zero_le (show 0 ≤ g 1 by omega)
    have hh : ∀ i : Nat, i < 16 → if i < c then 0 ≤ g (2 + i) ∧ g (2 + i) < n else g (2 + i) = 0 := fun i hi => by
      have := of_allR h3 i hi
      unfold homeR at this
      rw [hc, hn] at this
      by_cases a : (i : Int) < c
      · rw [if_pos a] at this; rw [if_pos (by omega)]; simpa using this
      · rw [if_neg a] at this; rw [if_neg (by omega)]; simpa using this
    have hf : ∀ i : Nat, i < 8 → (if i < n then 4 ≤ g (18 + i) ∧ g (18 + i) ≤ 128 ∧ g 93 ≤ g (18 + i) else g (18 + i) = 0) := fun i hi => by
      have := of_allR h4 i hi
      simp only [rowR, Bool.and_eq_true] at this
      have := this.1
      unfold frameR at this
      rw [hn] at this
      by_cases a : (i : Int) < n
      · rw [if_pos a] at this; rw [if_pos (by omega)]; simpa using this
      · rw [if_neg a] at this; rw [if_neg (by omega)]; simpa using this
    have hd : ∀ i k : Nat, i < 8 → k < 8 → (if i < n ∧ k < n ∧ i ≠ k then 1 ≤ g (26 + i * 8 + k) ∧ g (26 + i * 8 + k) ≤ 255 ∧ g (26 + i * 8 + k) = g (26 + k * 8 + i) else g (26 + i * 8 + k) = 0) := fun i k hi hk => by
      have := of_allR h4 i hi
      simp only [rowR, Bool.and_eq_true] at this
      have := of_allR this.2 k hk
      unfold cellR at this
      rw [hn] at this
      by_cases a : (i : Int) < n ∧ (k : Int) < n ∧ i ≠ k
      · rw [if_pos a] at this; rw [if_pos ⟨by omega, by omega, a.2.2⟩]; simpa using this
      · rw [if_neg a] at this; rw [if_neg (by omega)]; simpa using this
    refine ⟨e0.1, e0.2, e1.1, e1.2, e2.1, e2.2, fun i hi => ?_, fun i hi => ?_, fun a ha => ?_, fun a b ha hb => ?_, h5, h6, h7, fun i hi => ?_, fun i hi => ?_⟩
    · have := hh i (by omega); rw [if_pos (by omega)] at this; omega
    · have := hf i (by omega); rw [if_pos (by omega)] at this; omega
    · have := hd a a (by omega) (by omega); rw [if_neg (by omega)] at this; exact this
    · have := hd a b (by omega) (by omega); rw [if_pos ⟨by omega, by omega, by omega⟩] at this; omega
    · have := hf i (by omega); rw [if_pos (by omega)] at this; omega
    · rw [bareG_at g c n hc hn]
      by_cases a1 : i < 2
      · rw [if_pos a1]
      · rw [if_neg a1]
        by_cases a2 : i < 18
        · rw [if_pos a2]
          by_cases a3 : i < 2 + c
          · rw [if_pos a3]
          · have := hh (i - 2) (by omega)
            rw [if_neg (by omega), show 2 + (i - 2) = i by omega] at this
            rw [if_neg a3, this]
        · rw [if_neg a2]
          by_cases a3 : i < 26
          · rw [if_pos a3]
            by_cases a4 : i < 18 + n
            · rw [if_pos a4]
            · have := hf (i - 18) (by omega)
              rw [if_neg (by omega), show 18 + (i - 18) = i by omega] at this
              rw [if_neg a4, this]
          · rw [if_neg a3]
            by_cases a4 : i < 90
            · rw [if_pos a4]
              by_cases a5 : (i - 26) / 8 < n ∧ (i - 26) % 8 < n
              · rw [if_pos a5]
              · have := hd ((i - 26) / 8) ((i - 26) % 8) (by omega) (by omega)
                rw [if_neg (by omega), show 26 + (i - 26) / 8 * 8 + (i - 26) % 8 = i by omega] at this
                rw [if_neg a5, this]
            · rw [if_neg a4]
  · intro G
    have n1 := G.n1
    have n2 := G.n2
    have c1 := G.c1
    have c2 := G.c2
    obtain ⟨n, hn⟩ := Int.eq_ofNat_of_zero_le (show 0 ≤ g 0 by omega)
    obtain ⟨c, hc⟩ := Int.eq_ofNat_of_zero_le (show 0 ≤ g 1 by omega)
    have hb := fun i hi => (G.behind i hi).trans (bareG_at g c n hc hn i)
    simp only [mayR, headR, tailR, Bool.and_eq_true, decide_eq_true_eq]
    refine ⟨⟨decide_eq_true ⟨G.n1, G.n2⟩, decide_eq_true ⟨G.c1, G.c2⟩, decide_eq_true ⟨G.s1, G.s2⟩⟩, allR_true (fun i hi => ?_), allR_true (fun i hi => ?_), G.min0, G.low, G.high⟩
    · unfold homeR
      by_cases a : (i : Int) < g 1
      · have := G.home i a
        rw [if_pos a]; simp; omega
      · have := hb (2 + i) (by omega)
        rw [if_neg (by omega), if_pos (by omega), if_neg (by omega)] at this
        rw [if_neg a, this]; rfl
    · simp only [rowR, Bool.and_eq_true]
      refine ⟨?_, allR_true (fun k hk => ?_)⟩
      · unfold frameR
        by_cases a : (i : Int) < g 0
        · have h1 := G.frames i a
          have h2 := G.least i a
          rw [if_pos a]; simp; omega
        · have := hb (18 + i) (by omega)
          rw [if_neg (by omega), if_neg (by omega), if_pos (by omega), if_neg (by omega)] at this
          rw [if_neg a, this]; rfl
      · unfold cellR
        by_cases a : (i : Int) < g 0 ∧ (k : Int) < g 0 ∧ i ≠ k
        · rw [if_pos a]
          by_cases h : k < i
          · obtain ⟨d1, d2, d3⟩ := G.dist i k a.1 h
            simp; omega
          · obtain ⟨d1, d2, d3⟩ := G.dist k i a.2.1 (by omega)
            simp; omega
        · rw [if_neg a]
          by_cases h1 : (i : Int) < g 0 ∧ (k : Int) < g 0
          · obtain rfl : i = k := by omega
            simpa using G.self i h1.1
          · have := hb (26 + i * 8 + k) (by omega)
            rw [if_neg (by omega), if_neg (by omega), if_neg (by omega), if_pos (by omega), if_neg (by omega)] at this
            rw [this]; rfl
theorem mayR_eq (g : Nat → Int) : mayR g = mayB g := by
  rw [Bool.eq_iff_iff, mayR_good, good_iff]
end
/-! The document's own answer: the walk of its May. -/
section
open Go.RowKit Go

set_option maxHeartbeats 1000000 in
set_option maxRecDepth 100000 in
theorem refmay_head (A : Array Value) (g : Nat → Int) (w : World) (hA : Cfg A g) (h : headR g = false) :
    Calls Try.prog 9 #[.agg A] w fun e w' => e = .returned (.bool false) ∧ Below w.heap.size w w' := by
  have a0 : A[0]? = some (.int .i64 (g 0)) := hA.get 0 (by decide)
  have a1 : A[1]? = some (.int .i64 (g 1)) := hA.get 1 (by decide)
  have a90 : A[90]? = some (.int .i64 (g 90)) := hA.get 90 (by decide)
  have hc : g 0 < 1 ∨ (1 ≤ g 0 ∧ 8 < g 0) ∨ (1 ≤ g 0 ∧ g 0 ≤ 8 ∧ g 1 < 1) ∨ (1 ≤ g 0 ∧ g 0 ≤ 8 ∧ 1 ≤ g 1 ∧ 16 < g 1) ∨ (1 ≤ g 0 ∧ g 0 ≤ 8 ∧ 1 ≤ g 1 ∧ g 1 ≤ 16 ∧ g 90 < 0) ∨ (1 ≤ g 0 ∧ g 0 ≤ 8 ∧ 1 ≤ g 1 ∧ g 1 ≤ 16 ∧ 0 ≤ g 90 ∧ 1024 < g 90) := by
    simp only [headR, withinB, Bool.and_eq_false_iff, decide_eq_false_iff_not] at h
    omega
  generalize g 0 = x at a0 hc
  generalize g 1 = y at a1 hc
  generalize g 90 = z at a90 hc
  clear h hA
  rcases hc with h1 | ⟨h1, h2⟩ | ⟨h1, h2, h3⟩ | ⟨h1, h2, h3, h4⟩ | ⟨h1, h2, h3, h4, h5⟩ | ⟨h1, h2, h3, h4, h5, h6⟩
  all_goals
    go_enter Try.func9, Try.ntmps9
    go_wp2_with (fail)
    go_ret
    exact ⟨rfl, (Below.refl _ _).alloc (Nat.le_refl _) _⟩
end
/-! The document's own answer: the walk of its May, behind its first test. -/
section
open Go.RowKit Go

set_option maxHeartbeats 8000000 in
set_option maxRecDepth 100000 in
theorem refmay_body (A : Array Value) (g : Nat → Int) (w : World) (hA : Cfg A g) (h : headR g = true) :
    Calls Try.prog 9 #[.agg A] w fun e w' => e = .returned (.bool (mayR g)) ∧ Below w.heap.size w w' := by
  have HM := Lib.hid (show mayR g = (allR 16 (homeR g) && (allR 8 (rowR g) && tailR g)) by unfold mayR; rw [h, Bool.true_and])
  have hh := h
  simp only [headR, Bool.and_eq_true] at hh
  obtain ⟨e0, e1, e2⟩ := hh
  have e0 := of_withinB e0
  have e1 := of_withinB e1
  have e2 := of_withinB e2
  obtain ⟨n, hn⟩ := Int.eq_ofNat_of_zero_le (show 0 ≤ g 0 by omega)
  obtain ⟨c, hc⟩ := Int.eq_ofNat_of_zero_le (show 0 ≤ g 1 by omega)
  have a0 : A[0]? = some (.int .i64 n) := by rw [← hn]; exact hA.get 0 (by decide)
  have a1 : A[1]? = some (.int .i64 c) := by rw [← hc]; exact hA.get 1 (by decide)
  have a90 : A[90]? = some (.int .i64 (g 90)) := hA.get 90 (by decide)
  have hn1 : 1 ≤ n := by omega
  have hn8 : n ≤ 8 := by omega
  have hc1 : 1 ≤ c := by omega
  have hc16 : c ≤ 16 := by omega
  obtain ⟨s1, s2⟩ := e2
  have HN := Lib.hid hn
  have HC := Lib.hid hc
  have HA := Lib.hid hA
  clear hA h e0 e1 hn hc
  generalize g 90 = z at a90 s1 s2
  go_enter Try.func9, Try.ntmps9
  go_wp2_with (fail)
  clear a90 s1 s2
  go_loopw [3] (fun x wr => ∃ k : Nat, k ≤ 16 ∧ x = .int .i64 k ∧ Hid (∀ i, i < k → homeR g i = true) ∧ ∃ m, wr = (w.alloc (.cells A 26)).drewN m) (fun x _ => 16 - (intOf x).toNat)
  case atStart => exact ⟨0, Nat.zero_le _, rfl, Lib.hid (fun i h => absurd h (Nat.not_lt_zero _)), 0, rfl⟩
  case round =>
    obtain ⟨k, hk, rfl, HK, m, rfl⟩ := hrel
    by_cases hlt : k < 16
    · have ah : A[2 + k]? = some (.int .i64 (g (2 + k))) := HA.out.get _ (by omega)
      have HL := Lib.hid (show homeR g k = false → mayR g = false from fun h => by rw [HM.out, allR_false k hlt h]; rfl)
      have HR := Lib.hid (show homeR g k = if (k : Int) < c then decide (0 ≤ g (2 + k)) && decide (g (2 + k) < n) else g (2 + k) == 0 by unfold homeR; rw [HN.out, HC.out])
      generalize g (2 + k) = x at ah HR
      have ik : (k : Int) < 16 := by omega
      by_cases h1 : (k : Int) < c
      · have d1 : decide (c ≤ k) = false := by simp; omega
        by_cases h2 : x < 0
        · have HF := Lib.hid (HL.out (by rw [HR.out, if_pos h1]; simp; omega))
          go_wp2_with (fail)
          go_quiet (fail)
          go_wp2_with (fail)
          go_ret
          exact ⟨by rw [HF.out]; rfl, below_drewN (below_drewN ((Below.refl _ _).alloc (Nat.le_refl _) _) _) _⟩
        · have d2 : decide (x < 0) = false := by simpa using h2
          by_cases h3 : (n : Int) ≤ x
          · have HF := Lib.hid (HL.out (by rw [HR.out, if_pos h1]; simp; omega))
            clear h2
            go_wp2_with (fail)
            go_quiet (fail)
            go_wp2_with (fail)
            go_ret
            exact ⟨by rw [HF.out]; rfl, below_drewN (below_drewN ((Below.refl _ _).alloc (Nat.le_refl _) _) _) _⟩
          · have d3 : decide ((n : Int) ≤ x) = false := by simpa using h3
            have HT := Lib.hid (show homeR g k = true by rw [HR.out, if_pos h1]; simp; omega)
            clear h2 h3
            go_wp2_with (fail)
            go_quiet (fail)
            go_wp2_with (fail)
            go_roundw
            case rel => exact ⟨k + 1, hlt, by go_num, Lib.hid (fun i h => by
              by_cases e : i = k
              · subst e; exact HT.out
              · exact HK.out i (by omega)), _, rfl⟩
            case measure => simp [intOf]; omega
      · have d1 : decide (k < c) = false := by simp; omega
        have h1' : c ≤ k := by omega
        by_cases h2 : x = 0
        · subst h2
          have HT := Lib.hid (show homeR g k = true by rw [HR.out, if_neg h1]; rfl)
          clear h1
          go_wp2_with (fail)
          go_quiet (fail)
          go_wp2_with (fail)
          go_roundw
          case rel => exact ⟨k + 1, hlt, by go_num, Lib.hid (fun i h => by
            by_cases e : i = k
            · subst e; exact HT.out
            · exact HK.out i (by omega)), _, rfl⟩
          case measure => simp [intOf]; omega
        · have d2 : (x != 0) = true := by simpa using h2
          have HF := Lib.hid (HL.out (by rw [HR.out, if_neg h1]; simpa using h2))
          clear h1 h2
          go_wp2_with (fail)
          go_quiet (fail)
          go_wp2_with (fail)
          go_ret
          exact ⟨by rw [HF.out]; rfl, below_drewN (below_drewN ((Below.refl _ _).alloc (Nat.le_refl _) _) _) _⟩
    · have HM2 := Lib.hid (show mayR g = (allR 8 (rowR g) && tailR g) by rw [HM.out, allR_true (fun i h => HK.out i (by omega)), Bool.true_and])
      go_wp2_with (fail)
      clear a1
      have a93 : A[93]? = some (.int .i64 (g 93)) := HA.out.get 93 (by decide)
      have HH := Lib.hid (show ∀ i, frameR g i = if (i : Int) < g 0 then decide (4 ≤ g (18 + i)) && (decide (g (18 + i) ≤ 128) && decide (g 93 ≤ g (18 + i))) else g (18 + i) == 0 from fun _ => rfl)
      go_loopw [4, 5, 6, 7] (fun x _ _ _ wr => ∃ i : Nat, i ≤ 8 ∧ x = .int .i64 i ∧ Hid (∀ l, l < i → rowR g l = true) ∧ ∃ m, wr = (w.alloc (.cells A 26)).drewN m) (fun x _ _ _ _ => 8 - (intOf x).toNat)
      case atStart => exact ⟨0, Nat.zero_le _, rfl, Lib.hid (fun i h => absurd h (Nat.not_lt_zero _)), m, rfl⟩
      case round =>
        clear HK hlt hk
        obtain ⟨i, hi, rfl, HK, m1, rfl⟩ := hrel
        by_cases hlt : i < 8
        · have af : A[18 + i]? = some (.int .i64 (g (18 + i))) := HA.out.get _ (by omega)
          have HL := Lib.hid (show rowR g i = false → mayR g = false from fun h => by rw [HM2.out, allR_false i hlt h]; rfl)
          have ii : (i : Int) < 8 := by omega
          have HF1 := Lib.hid (HH.out i)
          generalize g (18 + i) = f at af HF1
          obtain ⟨hgh, hhg⟩ : ∃ x, x = g 93 := ⟨_, rfl⟩
          rw [← hhg] at a93 HF1
          have HG := Lib.hid hhg
          clear hhg
          by_cases hin : i < n
          · have HF2 := Lib.hid (show frameR g i = (decide (4 ≤ f) && (decide (f ≤ 128) && decide (hgh ≤ f))) by rw [HF1.out, if_pos (by rw [HN.out]; omega)])
            by_cases q1 : f < 4
            · have HF := Lib.hid (HL.out (by unfold rowR; rw [HF2.out]; simp; omega))
              go_wp2_with (fail)
              go_quiet (fail)
              go_wp2_with (fail)
              go_ret
              exact ⟨by rw [HF.out]; rfl, below_drewN (below_drewN ((Below.refl _ _).alloc (Nat.le_refl _) _) _) _⟩
            · have q1' : decide (f < 4) = false := by simpa using q1
              by_cases q2 : 128 < f
              · have HF := Lib.hid (HL.out (by unfold rowR; rw [HF2.out]; simp; omega))
                clear q1
                go_wp2_with (fail)
                go_quiet (fail)
                go_wp2_with (fail)
                go_ret
                exact ⟨by rw [HF.out]; rfl, below_drewN (below_drewN ((Below.refl _ _).alloc (Nat.le_refl _) _) _) _⟩
              · have q2' : decide (128 < f) = false := by simpa using q2
                by_cases q3 : f < hgh
                · have HF := Lib.hid (HL.out (by unfold rowR; rw [HF2.out]; simp; omega))
                  clear q1 q2
                  go_wp2_with (fail)
                  go_quiet (fail)
                  go_wp2_with (fail)
                  go_ret
                  exact ⟨by rw [HF.out]; rfl, below_drewN (below_drewN ((Below.refl _ _).alloc (Nat.le_refl _) _) _) _⟩
                · have q3' : decide (f < hgh) = false := by simpa using q3
                  have HFR := Lib.hid (show frameR g i = true by rw [HF2.out]; simp; omega)
                  clear q1 q2 q3
                  go_wp2_with (fail)
                  go_quiet (fail)
                  clear q1' q2' q3'
                  go_wp2_with (fail)
                  clear af
                  go_loopw [6, 7] (fun x _ wr => ∃ j : Nat, j ≤ 8 ∧ x = .int .i64 j ∧ Hid (∀ l, l < j → cellR g i l = true) ∧ ∃ m, wr = (w.alloc (.cells A 26)).drewN m) (fun x _ _ => 8 - (intOf x).toNat)
                  case atStart => exact ⟨0, Nat.zero_le _, rfl, Lib.hid (fun i h => absurd h (Nat.not_lt_zero _)), _, World.drewN_drewN _ _ _⟩
                  case round =>
                    obtain ⟨j, hj, rfl, HJ, m2, rfl⟩ := hrel
                    by_cases hlj : j < 8
                    · have ad : A[26 + i * 8 + j]? = some (.int .i64 (g (26 + i * 8 + j))) := HA.out.get _ (by omega)
                      have ae : A[26 + j * 8 + i]? = some (.int .i64 (g (26 + j * 8 + i))) := HA.out.get _ (by omega)
                      have HLJ := Lib.hid (show cellR g i j = false → mayR g = false from fun h => HL.out (by unfold rowR; rw [allR_false j hlj h, Bool.and_false]))
                      have HCJ := Lib.hid (show cellR g i j = if i < n ∧ j < n ∧ i ≠ j then decide (1 ≤ g (26 + i * 8 + j)) && (decide (g (26 + i * 8 + j) ≤ 255) && g (26 + i * 8 + j) == g (26 + j * 8 + i)) else g (26 + i * 8 + j) == 0 by
                        unfold cellR; rw [HN.out]; by_cases q : i < n ∧ j < n ∧ i ≠ j
                        · rw [if_pos q, if_pos ⟨by omega, by omega, q.2.2⟩]
                        · rw [if_neg q, if_neg (by omega)])
                      generalize g (26 + i * 8 + j) = d at ad HCJ
                      generalize g (26 + j * 8 + i) = e at ae HCJ
                      have ij : (j : Int) < 8 := by omega
                      by_cases hjn : j < n
                      · have g1 : decide (n ≤ j) = false := by simp; omega
                        by_cases hij : j = i
                        · subst hij
                          clear ae
                          have HCZ := Lib.hid (show cellR g j j = (d == 0) by rw [HCJ.out, if_neg (by omega)])
                          by_cases hd : d = 0
                          · subst hd
                            have HT := Lib.hid (show cellR g j j = true by rw [HCZ.out]; rfl)
                            skip
                            go_wp2_with (fail)
                            go_roundw
                            case rel => exact ⟨j + 1, hlj, by go_num, Lib.hid (fun l h => by
                              by_cases e : l = j
                              · subst e; exact HT.out
                              · exact HJ.out l (by omega)), _, rfl⟩
                            case measure => simp [intOf]; omega
                          · have d9 : (d != 0) = true := by simpa using hd
                            have HF := Lib.hid (HLJ.out (by rw [HCZ.out]; simpa using hd))
                            clear hd
                            skip
                            go_wp2_with (fail)
                            go_ret
                            exact ⟨by rw [HF.out]; rfl, below_drewN ((Below.refl _ _).alloc (Nat.le_refl _) _) _⟩
                        · have hij : ¬ i = j := fun h => hij h.symm
                          have g2 : (i == j) = false := by simpa using hij
                          have g3 : ((i : Int) == (j : Int)) = false := by simp; omega
                          have g4 : (i != j) = true := by simpa using hij
                          have g5 : ((i : Int) != (j : Int)) = true := by simp; omega
                          have HCK := Lib.hid (show cellR g i j = (decide (1 ≤ d) && (decide (d ≤ 255) && d == e)) by rw [HCJ.out, if_pos ⟨hin, hjn, hij⟩])
                          clear hij
                          by_cases q1 : d < 1
                          · have HF := Lib.hid (HLJ.out (by rw [HCK.out]; simp; omega))
                            go_wp2_with (fail)
                            go_ret
                            exact ⟨by rw [HF.out]; rfl, below_drewN ((Below.refl _ _).alloc (Nat.le_refl _) _) _⟩
                          · have q1' : decide (d < 1) = false := by simpa using q1
                            clear q1
                            by_cases q2 : 255 < d
                            · have HF := Lib.hid (HLJ.out (by rw [HCK.out]; simp; omega))
                              go_wp2_with (fail)
                              go_ret
                              exact ⟨by rw [HF.out]; rfl, below_drewN ((Below.refl _ _).alloc (Nat.le_refl _) _) _⟩
                            · have q2' : decide (255 < d) = false := by simpa using q2
                              clear q2
                              by_cases q3 : d = e
                              · subst q3
                                have HT := Lib.hid (show cellR g i j = true by rw [HCK.out]; simp at q1' q2' ⊢; omega)
                                have q3' : (d != d) = false := by simp
                                go_wp2_with (fail)
                                go_roundw
                                case rel => exact ⟨j + 1, hlj, by go_num, Lib.hid (fun l h => by
                                  by_cases e : l = j
                                  · subst e; exact HT.out
                                  · exact HJ.out l (by omega)), _, rfl⟩
                                case measure => simp [intOf]; omega
                              · have q3' : (d != e) = true := by simpa using q3
                                have HF := Lib.hid (HLJ.out (by rw [HCK.out]; simp; intro _ _; exact q3))
                                clear q3
                                go_wp2_with (fail)
                                go_ret
                                exact ⟨by rw [HF.out]; rfl, below_drewN ((Below.refl _ _).alloc (Nat.le_refl _) _) _⟩
                      · have g1 : n ≤ j := by omega
                        have g2 : decide (j < n) = false := by simp; omega
                        by_cases hd : d = 0
                        · subst hd
                          have HT := Lib.hid (show cellR g i j = true by rw [HCJ.out, if_neg (by omega)]; rfl)
                          skip
                          go_wp2_with (fail)
                          go_roundw
                          case rel => exact ⟨j + 1, hlj, by go_num, Lib.hid (fun l h => by
                            by_cases e : l = j
                            · subst e; exact HT.out
                            · exact HJ.out l (by omega)), _, rfl⟩
                          case measure => simp [intOf]; omega
                        · have d9 : (d != 0) = true := by simpa using hd
                          have HF := Lib.hid (HLJ.out (by rw [HCJ.out, if_neg (by omega)]; simpa using hd))
                          clear hd
                          skip
                          go_wp2_with (fail)
                          go_ret
                          exact ⟨by rw [HF.out]; rfl, below_drewN ((Below.refl _ _).alloc (Nat.le_refl _) _) _⟩
                    · have HT := Lib.hid (show rowR g i = true by unfold rowR; rw [HFR.out, allR_true (fun l h => HJ.out l (by omega))]; rfl)
                      go_wp2_with (fail)
                      go_roundw
                      case rel => exact ⟨i + 1, hlt, by go_num, Lib.hid (fun l h => by
                        by_cases e : l = i
                        · subst e; exact HT.out
                        · exact HK.out l (by omega)), _, rfl⟩
                      case measure => simp [intOf]; omega
          · have hin' : decide (i < n) = false := by simp; omega
            have HF2 := Lib.hid (show frameR g i = (f == 0) by rw [HF1.out, if_neg (by rw [HN.out]; omega)])
            by_cases q1 : f = 0
            · subst q1
              have HFR := Lib.hid (show frameR g i = true by rw [HF2.out]; rfl)
              go_wp2_with (fail)
              go_quiet (fail)
              go_wp2_with (fail)
              clear af
              go_loopw [6, 7] (fun x _ wr => ∃ j : Nat, j ≤ 8 ∧ x = .int .i64 j ∧ Hid (∀ l, l < j → cellR g i l = true) ∧ ∃ m, wr = (w.alloc (.cells A 26)).drewN m) (fun x _ _ => 8 - (intOf x).toNat)
              case atStart => exact ⟨0, Nat.zero_le _, rfl, Lib.hid (fun i h => absurd h (Nat.not_lt_zero _)), _, World.drewN_drewN _ _ _⟩
              case round =>
                obtain ⟨j, hj, rfl, HJ, m2, rfl⟩ := hrel
                by_cases hlj : j < 8
                · have ad : A[26 + i * 8 + j]? = some (.int .i64 (g (26 + i * 8 + j))) := HA.out.get _ (by omega)
                  have ae : A[26 + j * 8 + i]? = some (.int .i64 (g (26 + j * 8 + i))) := HA.out.get _ (by omega)
                  have HLJ := Lib.hid (show cellR g i j = false → mayR g = false from fun h => HL.out (by unfold rowR; rw [allR_false j hlj h, Bool.and_false]))
                  have HCJ := Lib.hid (show cellR g i j = if i < n ∧ j < n ∧ i ≠ j then decide (1 ≤ g (26 + i * 8 + j)) && (decide (g (26 + i * 8 + j) ≤ 255) && g (26 + i * 8 + j) == g (26 + j * 8 + i)) else g (26 + i * 8 + j) == 0 by
                    unfold cellR; rw [HN.out]; by_cases q : i < n ∧ j < n ∧ i ≠ j
                    · rw [if_pos q, if_pos ⟨by omega, by omega, q.2.2⟩]
                    · rw [if_neg q, if_neg (by omega)])
                  generalize g (26 + i * 8 + j) = d at ad HCJ
                  generalize g (26 + j * 8 + i) = e at ae HCJ
                  have ij : (j : Int) < 8 := by omega
                  by_cases hd : d = 0
                  · subst hd
                    have HT := Lib.hid (show cellR g i j = true by rw [HCJ.out, if_neg (by omega)]; rfl)
                    skip
                    go_wp2_with (fail)
                    go_roundw
                    case rel => exact ⟨j + 1, hlj, by go_num, Lib.hid (fun l h => by
                      by_cases e : l = j
                      · subst e; exact HT.out
                      · exact HJ.out l (by omega)), _, rfl⟩
                    case measure => simp [intOf]; omega
                  · have d9 : (d != 0) = true := by simpa using hd
                    have HF := Lib.hid (HLJ.out (by rw [HCJ.out, if_neg (by omega)]; simpa using hd))
                    clear hd
                    skip
                    go_wp2_with (fail)
                    go_ret
                    exact ⟨by rw [HF.out]; rfl, below_drewN ((Below.refl _ _).alloc (Nat.le_refl _) _) _⟩
                · have HT := Lib.hid (show rowR g i = true by unfold rowR; rw [HFR.out, allR_true (fun l h => HJ.out l (by omega))]; rfl)
                  go_wp2_with (fail)
                  go_roundw
                  case rel => exact ⟨i + 1, hlt, by go_num, Lib.hid (fun l h => by
                    by_cases e : l = i
                    · subst e; exact HT.out
                    · exact HK.out l (by omega)), _, rfl⟩
                  case measure => simp [intOf]; omega
            · have q1' : (f != 0) = true := by simpa using q1
              have HF := Lib.hid (HL.out (by unfold rowR; rw [HF2.out]; simp; intro h; exact absurd h q1))
              clear q1
              go_wp2_with (fail)
              go_quiet (fail)
              go_wp2_with (fail)
              go_ret
              exact ⟨by rw [HF.out]; rfl, below_drewN (below_drewN ((Below.refl _ _).alloc (Nat.le_refl _) _) _) _⟩
        · have HM3 := Lib.hid (show mayR g = tailR g by rw [HM2.out, allR_true (fun l h => HK.out l (by omega)), Bool.true_and])
          have a91 : A[91]? = some (.int .i64 (g 91)) := HA.out.get 91 (by decide)
          have a92 : A[92]? = some (.int .i64 (g 92)) := HA.out.get 92 (by decide)
          have HT := Lib.hid (show tailR g = (decide (0 ≤ g 91) && (decide (g 91 ≤ g 92) && decide (g 92 ≤ g 93))) from rfl)
          generalize g 91 = x at a91 HT
          generalize g 92 = y at a92 HT
          generalize g 93 = v at a93 HT
          have hcs : x < 0 ∨ (0 ≤ x ∧ y < x) ∨ (0 ≤ x ∧ x ≤ y ∧ v < y) ∨ (0 ≤ x ∧ x ≤ y ∧ y ≤ v) := by omega
          rcases hcs with h1 | ⟨h1, h2⟩ | ⟨h1, h2, h3⟩ | ⟨h1, h2, h3⟩
          · have HF := Lib.hid (show mayR g = false by rw [HM3.out, HT.out]; simp; omega)
            go_wp2_with (fail)
            go_ret
            exact ⟨by rw [HF.out]; rfl, below_drewN ((Below.refl _ _).alloc (Nat.le_refl _) _) _⟩
          · have HF := Lib.hid (show mayR g = false by rw [HM3.out, HT.out]; simp; omega)
            go_wp2_with (fail)
            go_ret
            exact ⟨by rw [HF.out]; rfl, below_drewN ((Below.refl _ _).alloc (Nat.le_refl _) _) _⟩
          · have HF := Lib.hid (show mayR g = false by rw [HM3.out, HT.out]; simp; omega)
            go_wp2_with (fail)
            go_ret
            exact ⟨by rw [HF.out]; show Ending.returned (Value.bool (decide (y ≤ v))) = _; rw [decide_eq_false (by omega)], below_drewN ((Below.refl _ _).alloc (Nat.le_refl _) _) _⟩
          · have HF := Lib.hid (show mayR g = true by rw [HM3.out, HT.out]; simp; omega)
            go_wp2_with (fail)
            go_ret
            exact ⟨by rw [HF.out]; rfl, below_drewN ((Below.refl _ _).alloc (Nat.le_refl _) _) _⟩

set_option maxRecDepth 100000 in
theorem refmay_any (A : Array Value) (g : Nat → Int) (w : World) (hA : Cfg A g) :
    Calls Try.prog 9 #[.agg A] w fun e w' => e = .returned (.bool (mayB g)) ∧ Below w.heap.size w w' := by
  rw [← mayR_eq]
  cases h : headR g with
  | false =>
    have : mayR g = false := by unfold mayR; rw [h, Bool.false_and]
    rw [this]
    exact refmay_head A g w hA h
  | true => exact refmay_body A g w hA h
end
/-! append(s, make([]T, m)...) onto a row of the call's own: the translation hands the builtin the number m. Of no program. -/
section
open Go.RowKit Go

theorem zeroCells_one {z : Value} (h : ∀ u ∈ z.cells.toList, u.oneCell' = true) (m : Nat) : ∀ u ∈ (Builtin.zeroCells z.cells m).toList, u.oneCell' = true := by
  intro u hu
  simp only [Builtin.zeroCells, Array.toList_map, List.mem_map] at hu
  obtain ⟨j, hj, rfl⟩ := hu
  by_cases hs : 0 < z.cells.size
  · rw [getElem!_pos z.cells _ (Nat.mod_lt _ hs)]
    exact h _ (by simp)
  · have : (Array.range (m * z.cells.size)).toList = [] := by
      rw [show z.cells.size = 0 by omega]; simp
    rw [this] at hj; cases hj

theorem run_append_own_zeros {P : Program} (w : World) (base : Nat) (t tn ty e : TypeId) (i : TypeInfo) (z : Value) (size bytes : Nat) (k kn : IntKind) (ht : P.underlying t = some (.slice e)) (htn : P.underlying tn = some (.int kn)) (hi : P.info? e = some i) (hz : i.zero = some z)
    (hsize : i.size = size) (hby : i.bytes = bytes) (hzs : z.cells.size = size) (hsz : 0 < size) (hz1 : ∀ u ∈ z.cells.toList, u.oneCell' = true)
    (v : Value) (n : Nat) (xs : List Value) (hown : w.ownsRow base e size v n xs) (hv : v ≠ .slice none 0 0)
    (m : Nat) (hsmall : n + m ≤ 1048576) (hbytes : (n + m) * bytes ≤ 140737488355328) (hbase : base ≤ w.heap.size) :
    ∃ v' w', (Builtin.append_ #[t, tn] ty #[v, .int k m]).run P w = .ok v' w' ∧ w'.ownsRow base e size v' (n + m) (xs ++ (Builtin.zeroCells z.cells m).toList) ∧ w.grownBy w' v.ownBlock ∧ v' ≠ .slice none 0 0 := by
  subst hsize
  subst hby
  obtain ⟨news, hnews⟩ : ∃ l, l = (Builtin.zeroCells z.cells m).toList := ⟨_, rfl⟩
  have hl : news.length = m * i.size := by rw [hnews, Array.length_toList, size_zeroCells, hzs]
  have h1 : ∀ u ∈ news, u.oneCell' = true := by rw [hnews]; exact zeroCells_one hz1 m
  rw [← hnews]
  have hw : IntKind.i64.wrap (m : Int) = m := by rw [IntKind.wrap_i64]; omega
  have hneg : ¬ ((m : Int) < 0) := by omega
  have h48 : ¬ (281474976710656 < (m : Int) * (i.bytes : Int)) := by
    rw [← Int.natCast_mul]
    have : m * i.bytes ≤ (n + m) * i.bytes := Nat.mul_le_mul_right _ (by omega)
    omega
  have hlen : (xs ++ news).length = (n + m) * i.size := by rw [List.length_append, hown.1, hl, Nat.add_mul]
  rcases hown.2 with ⟨rfl, rfl⟩ | ⟨g, cap, cur, rfl, hbg, hg, hnc, hcm, hcs, htake⟩
  · exact absurd rfl hv
  · by_cases hroom : n + m ≤ cap
    · have hfit : n * i.size + news.length ≤ cur.size := by rw [hl, hcs, ← Nat.add_mul]; exact Nat.mul_le_mul_right _ hroom
      have hst := run_storeCells_at P g (n * i.size) e news 0 cur w hg (by simpa using hfit) h1
      simp only [Nat.add_zero] at hst
      have hr : (Builtin.append_ #[t, tn] ty #[.slice (some ⟨g, 0, none⟩) n cap, .int k m]).run P w =
          .ok (.slice (some ⟨g, 0, none⟩) (n + m) cap) (w.setRow g (cur.toList.take (n * i.size) ++ news ++ cur.toList.drop (n * i.size + news.length)).toArray) := by
        rcases Nat.eq_zero_or_pos m with rfl | hpos
        · have hn0 : news = [] := List.eq_nil_of_length_eq_zero (by rw [hl, Nat.zero_mul])
          have hw0 : IntKind.i64.wrap 0 = 0 := by decide
          rw [hn0] at hst ⊢
          simp [storeCells] at hst
          simp [Builtin.append_, run_underlying ht, run_underlying htn, sizeOf, typeInfo, hi, asInt, asIntOf, Addr.add_lit, hw0, hnc, storeCells]
          exact (setRow_self w g cur e _ hg).symm
        · have hms : ¬ m * i.size = 0 := Nat.mul_ne_zero (by omega) (by omega)
          simp [Builtin.append_, run_underlying ht, run_underlying htn, sizeOf, typeInfo, zeroValue, hi, hz, asInt, asIntOf, hw, hneg, h48, hroom, Addr.add_lit, hms]
          rw [← hnews, hst, ← List.append_assoc]; rfl
      refine ⟨_, _, hr, ⟨hlen, .inr ⟨g, cap, _, rfl, hbg, setRow_heap w g cur _ e _ hg, hroom, hcm, ?_, ?_⟩⟩, ⟨rfl, rfl, rfl, by simp, fun k _ hk => setRow_other w g k _ (fun e => hk (by simp [Value.ownBlock, e]))⟩, by simp⟩
      · simp only [List.size_toArray, List.length_append, List.length_take, List.length_drop, Array.length_toList]
        omega
      · rw [htake, ← hlen]
        exact List.take_left
    · have holds : ∀ j u, xs[j]? = some u → w.cell? ((⟨g, 0, none⟩ : Addr).add j) = some u := hown.cells (g := g) rfl
      have hf := run_firstCells_some (P := P) w.drew i.size n ⟨g, 0, none⟩ n cap xs hown.1 holds
      have h63' : ¬ (9223372036854775807 < ((n : Int) + (m : Int))) := by omega
      have hgs := growslice_fits (old := cap) (by omega) hbytes
      have hq : (Question.appendCap (n + m) cap e).forced = false := rfl
      have hr : (Builtin.append_ #[t, tn] ty #[.slice (some ⟨g, 0, none⟩) n cap, .int k m]).run P w =
          .ok (.slice (some ⟨w.heap.size, 0, none⟩) (n + m) (grownCap w (n + m) cap e)) (w.drew.alloc (.cells (xs.toArray ++ news.toArray ++ Builtin.zeroCells z.cells (grownCap w (n + m) cap e - (n + m))) e)) := by
        have hms : ¬ m * i.size = 0 := Nat.mul_ne_zero (by omega) (by omega)
        have hgs' : ¬ (281474976710656 < Builtin.nextslicecap (n + m) cap * i.bytes) := by omega
        simp [Builtin.append_, run_underlying ht, run_underlying htn, sizeOf, typeInfo, zeroValue, hi, hz, asInt, asIntOf, hw, hneg, h48, hroom, hgs', h63', hf, Question.forced, newRow, grownCap, hms]
        rw [hnews]
        congr 2
        apply Array.ext'
        simp [List.append_assoc]
      have hge := grownCap_ge w (n + m) cap e
      have hcm2 : grownCap w (n + m) cap e ≤ maxLen := grownCap_le_maxLen w (n + m) cap e (by unfold maxLen; omega)
      refine ⟨_, _, hr, ⟨hlen, .inr ⟨w.heap.size, _, _, rfl, hbase, heap_alloc_new w.drew _, hge, hcm2, ?_, ?_⟩⟩, ⟨rfl, rfl, rfl, by simp, fun k hk _ => Below.heap_alloc w.drew _ k hk⟩, by simp⟩
      · simp only [Array.size_append, List.size_toArray, size_zeroCells, hzs, hown.1, hl, ← Nat.add_mul]
        congr 1
        omega
      · simp only [Array.toList_append, List.append_assoc]
        rw [← List.append_assoc, ← hlen]
        exact List.take_left

theorem wpList_append_zeros {P : Program} (w : World) {ops : Array Oper} {rest : List Oper} {o : Oper} {a : Act} {Q : Exit → Act → World → Prop} (hgd : o.guard = none) (s x : Operand) (t tn : TypeId)
    (ho : o.op = .call { callee := .builtin .append, args := #[s, x], argTypes := #[t, tn] })
    (base : Nat) (e : TypeId) (i : TypeInfo) (z : Value) (size bytes : Nat) (k kn : IntKind) (ht : P.underlying t = some (.slice e)) (htn : P.underlying tn = some (.int kn)) (hi : P.info? e = some i) (hz : i.zero = some z)
    (hsize : i.size = size) (hby : i.bytes = bytes) (hzs : z.cells.size = size) (hsz : 0 < size) (hz1 : ∀ u ∈ z.cells.toList, u.oneCell' = true)
    (v : Value) (n : Nat) (xs : List Value) (hs : a.eval s = v) (hown : w.ownsRow base e size v n xs) (hv : v ≠ .slice none 0 0)
    (mi : Int) (m : Nat) (hx : a.eval x = .int k mi) (hm : mi = m) (hsmall : n + m ≤ 1048576) (hbytes : (n + m) * bytes ≤ 140737488355328) (hbase : base ≤ w.heap.size)
    (h : ∀ v' w', w'.ownsRow base e size v' (n + m) (xs ++ (Builtin.zeroCells z.cells m).toList) → w.grownBy w' v.ownBlock → v' ≠ .slice none 0 0 → wpList P ops Q rest (a.put o.dst v') w') : wpList P ops Q (o :: rest) a w := by
  subst hm
  obtain ⟨v', w', hr, h2, h3, h4⟩ := run_append_own_zeros (P := P) w base t tn o.type e i z size bytes k kn ht htn hi hz hsize hby hzs hsz hz1 v n xs hown hv m hsmall hbytes hbase
  refine wpList_plain hgd fun _ hK => ?_
  unfold Oper.wp execOp
  simp only [ho, resolve, invoke, builtin, Sem.run_bind, Sem.run_pure, Result.andThen_ok, List.map_toArray, List.map_cons, List.map_nil, hs, hx, hr]
  exact hK _ _ (h v' w' h2 h3 h4)

/-- append of what may be nil. -/
theorem run_append_own_src {P : Program} (w : World) (base : Nat) (t ty e : TypeId) (i : TypeInfo) (z : Value) (size bytes : Nat) (ht : P.underlying t = some (.slice e)) (hi : P.info? e = some i) (hz : i.zero = some z)
    (hsize : i.size = size) (hby : i.bytes = bytes) (hzs : z.cells.size = size) (hsz : 0 < size)
    (v : Value) (n : Nat) (xs : List Value) (hown : w.ownsRow base e size v n xs)
    (A : Option Addr) (m c : Nat) (news : List Value) (hl : news.length = m * size) (hsrc : 0 < m → ∃ ad, A = some ad ∧ ∀ j u, news[j]? = some u → w.cell? (ad.add j) = some u) (h1 : ∀ u ∈ news, u.oneCell' = true)
    (h63 : n + m ≤ maxLen) (hbytes : (n + m) * bytes ≤ 140737488355328) (hbase : base ≤ w.heap.size) :
    ∃ v' w', (Builtin.append_ #[t, t] ty #[v, .slice A m c]).run P w = .ok v' w' ∧ w'.ownsRow base e size v' (n + m) (xs ++ news) ∧ w.grownBy w' v.ownBlock ∧ (v' = .slice none 0 0 ↔ v = .slice none 0 0 ∧ m = 0) := by
  rcases A with _ | ad
  · have hm : m = 0 := by
      rcases Nat.eq_zero_or_pos m with h0 | h0
      · exact h0
      · obtain ⟨ad, h, _⟩ := hsrc h0
        cases h
    subst hm
    have hn : news = [] := List.eq_nil_of_length_eq_zero (by simpa using hl)
    subst hn
    refine ⟨v, w, ?_, by simpa using hown, ⟨rfl, rfl, rfl, Nat.le_refl _, fun _ _ _ => rfl⟩, by simp⟩
    rcases hown.2 with ⟨rfl, rfl⟩ | ⟨g, cap, cur, rfl, _, _, hnc, _⟩
    · simp [Builtin.append_, run_underlying ht, sizeOf, typeInfo, hi, Builtin.lenOf, Builtin.firstCells]
    · simp [Builtin.append_, run_underlying ht, sizeOf, typeInfo, hi, Builtin.lenOf, Builtin.firstCells, hnc, storeCells]
  · refine run_append_own w base t ty e i z size bytes ht hi hz hsize hby hzs hsz v n xs hown ad m c news hl ?_ h1 h63 hbytes hbase
    intro j u hu
    rcases Nat.eq_zero_or_pos m with h0 | h0
    · subst h0
      have hn : news = [] := List.eq_nil_of_length_eq_zero (by simpa using hl)
      subst hn
      simp at hu
    · obtain ⟨ad', h, hc⟩ := hsrc h0
      injection h with h
      subst h
      exact hc j u hu
theorem wpList_append_src {P : Program} (w : World) {ops : Array Oper} {rest : List Oper} {o : Oper} {a : Act} {Q : Exit → Act → World → Prop} (hgd : o.guard = none) (s x : Operand) (t : TypeId)
    (ho : o.op = .call { callee := .builtin .append, args := #[s, x], argTypes := #[t, t] })
    (base : Nat) (e : TypeId) (i : TypeInfo) (z : Value) (size bytes : Nat) (ht : P.underlying t = some (.slice e)) (hi : P.info? e = some i) (hz : i.zero = some z)
    (hsize : i.size = size) (hby : i.bytes = bytes) (hzs : z.cells.size = size) (hsz : 0 < size)
    (v : Value) (n : Nat) (xs : List Value) (hs : a.eval s = v) (hown : w.ownsRow base e size v n xs)
    (A : Option Addr) (m c : Nat) (news : List Value) (hx : a.eval x = .slice A m c) (hl : news.length = m * size) (hsrc : 0 < m → ∃ ad, A = some ad ∧ ∀ j u, news[j]? = some u → w.cell? (ad.add j) = some u) (h1 : ∀ u ∈ news, u.oneCell' = true)
    (h63 : n + m ≤ maxLen) (hbytes : (n + m) * bytes ≤ 140737488355328) (hbase : base ≤ w.heap.size)
    (h : ∀ v' w', w'.ownsRow base e size v' (n + m) (xs ++ news) → w.grownBy w' v.ownBlock → (v' = .slice none 0 0 ↔ v = .slice none 0 0 ∧ m = 0) → wpList P ops Q rest (a.put o.dst v') w') : wpList P ops Q (o :: rest) a w := by
  obtain ⟨v', w', hr, h2, h3, h4⟩ := run_append_own_src (P := P) w base t o.type e i z size bytes ht hi hz hsize hby hzs hsz v n xs hown A m c news hl hsrc h1 h63 hbytes hbase
  refine wpList_plain hgd fun _ hK => ?_
  unfold Oper.wp execOp
  simp only [ho, resolve, invoke, builtin, Sem.run_bind, Sem.run_pure, Result.andThen_ok, List.map_toArray, List.map_cons, List.map_nil, hs, hx, hr]
  exact hK _ _ (h v' w' h2 h3 h4)
end
/-! Rows of the call's own: later, one element more. Of no program. -/
section
open Go.RowKit Go

theorem owns_later {w w' : World} {base n size : Nat} {T : TypeId} {v : Value} {xs : List Value} (h : w.ownsRow base T size v n xs) (hb : Below w.heap.size w w') : w'.ownsRow base T size v n xs := by
  refine h.kept (row := none) ⟨hb.os, hb.tape, hb.output, hb.size, fun k hk _ => hb.block k hk⟩ ?_
  cases e : v.ownBlock with
  | none => exact .inl rfl
  | some k => exact .inr (fun h => by cases h)
/-- Something else turns. -/
theorem owns_only {S : Nat → Prop} {w w' : World} {base n size : Nat} {T : TypeId} {v : Value} {xs : List Value} (h : w.ownsRow base T size v n xs) (ho : Only S w w') (hs : ∀ k, v.ownBlock = some k → ¬ S k) : w'.ownsRow base T size v n xs := by
  obtain ⟨hl, ⟨rfl, hn⟩ | ⟨g, cap, cur, rfl, hb, hh, r⟩⟩ := h
  · exact ⟨hl, .inl ⟨rfl, hn⟩⟩
  · have hlt := (Array.getElem?_eq_some_iff.1 hh).1
    exact ⟨hl, .inr ⟨g, cap, cur, rfl, hb, by rw [ho.block g hlt (hs g (by simp [Value.ownBlock]))]; exact hh, r⟩⟩
theorem owns_base {w : World} {base base' n size : Nat} {T : TypeId} {v : Value} {xs : List Value} (h : w.ownsRow base T size v n xs) (hb : ∀ k, v.ownBlock = some k → base' ≤ k) : w.ownsRow base' T size v n xs := by
  obtain ⟨hl, ⟨rfl, hn⟩ | ⟨g, cap, cur, rfl, _, r⟩⟩ := h
  · exact ⟨hl, .inl ⟨rfl, hn⟩⟩
  · exact ⟨hl, .inr ⟨g, cap, cur, rfl, hb g (by simp [Value.ownBlock]), r⟩⟩
/-- What an own row is, as a slice. -/
theorem owns_slice {w : World} {base n size : Nat} {T : TypeId} {v : Value} {xs : List Value} (h : w.ownsRow base T size v n xs) : ∃ a cap, v = .slice a n cap ∧ (0 < n → ∃ g, a = some ⟨g, 0, none⟩ ∧ base ≤ g ∧ v.ownBlock = some g ∧ ∃ A t, w.heap[g]? = some (.cells A t (0, 0)) ∧ ∀ i, i < n * size → A[i]? = xs[i]?) := by
  obtain ⟨hl, ⟨rfl, rfl⟩ | ⟨g, cap, cur, rfl, hb, hh, _, _, _, ht⟩⟩ := h
  · exact ⟨none, 0, rfl, fun h => absurd h (Nat.lt_irrefl _)⟩
  · refine ⟨_, cap, rfl, fun _ => ⟨g, rfl, hb, by simp [Value.ownBlock], cur, T, hh, fun i hi => ?_⟩⟩
    rw [← ht, List.getElem?_take_of_lt hi]
    simp
theorem Only.of_grown {w w' : World} {row : Option Nat} (h : w.grownBy w' row) : Only (fun k => row = some k) w w' :=
  ⟨h.os, h.tape, h.output, h.size, fun k hk hs => h.block k hk (fun e => hs e.symm)⟩

theorem one_cell (k : IntKind) (x : Int) : ∀ u, u ∈ (#[Value.int k x] : Array Value).toList → u.oneCell' = true := by
  intro u h; simp at h; subst h; rfl
/-- append(s, x) behind the slice of x alone. -/
theorem wpList_append_one {P : Program} (w : World) {ops : Array Oper} {rest : List Oper} {o : Oper} {a : Act} {Q : Exit → Act → World → Prop} (hgd : o.guard = none) (s x : Operand) (t : TypeId)
    (ho : o.op = .call { callee := .builtin .append, args := #[s, x], argTypes := #[t, t] })
    (base : Nat) (e : TypeId) (i : TypeInfo) (z : Value) (size bytes : Nat) (ht : P.underlying t = some (.slice e)) (hi : P.info? e = some i) (hz : i.zero = some z)
    (hsize : i.size = size) (hby : i.bytes = bytes) (hzs : z.cells.size = size) (hsz : 0 < size)
    (v : Value) (n : Nat) (xs : List Value) (us : Array Value) (hown : w.ownsRow base e size v n xs) (hbase : base ≤ w.heap.size) (hs : a.eval s = v) (hx : a.eval x = .slice (some ⟨w.heap.size, 0, none⟩) 1 1)
    (hus : us.size = size) (h1 : ∀ u ∈ us.toList, u.oneCell' = true) (hn : n ≤ 1000) (hb : bytes ≤ 1000)
    (h : ∀ v' w', w'.ownsRow base e size v' (n + 1) (xs ++ us.toList) → Only (fun k => v.ownBlock = some k) w w' → v' ≠ .slice none 0 0 → wpList P ops Q rest (a.put o.dst v') w') :
    wpList P ops Q (o :: rest) a (w.alloc (.cells us e)) := by
  refine wpList_append_own _ hgd s x t ho base e i z size bytes ht hi hz hsize hby hzs hsz v n xs hs (hown.alloc _) ⟨w.heap.size, 0, none⟩ 1 1 us.toList hx (by simp; omega) (fun j u hj => ?_) h1 (by unfold maxLen; omega) ?_ (by simp; omega) ?_
  · have hadd : (⟨w.heap.size, 0, none⟩ : Addr).add j = ⟨w.heap.size, j, none⟩ := by unfold Addr.add; split <;> simp_all
    rw [hadd, cell_of_row _ _ _ _ _ _ (heap_alloc_new w _)]
    simpa using hj
  · exact Nat.le_trans (Nat.mul_le_mul (show n + 1 ≤ 1001 by omega) hb) (by decide)
  · intro v' w' h2 h3 h4
    exact h v' w' h2 ((Only.alloc _ w _).trans (Only.of_grown h3)) (fun e => by have := h4.1 e; omega)
theorem info_parts {o : Option TypeInfo} {z : Option Value} {s b : Nat} (h : o.map (fun i => (i.zero, i.size, i.bytes)) = some (z, s, b)) : ∃ i, o = some i ∧ i.zero = z ∧ i.size = s ∧ i.bytes = b := by
  cases o with
  | none => simp at h
  | some i => simp at h; exact ⟨i, rfl, h⟩
end
end Go.Proofs.Ytdpnmjlapgldgaa
