/-
  depot's laws: objects, a call, and a list of calls, as they lie and as they come in.
-/
import Derived.Test.YtagnipkannogoaaIntArg
import Derived.Test.YtagnipkannogoaaObjV
namespace Go.Proofs.Ytagnipkannogoaa
open Go.ChangeShapes Go.WideShapes Go.ChangeAt Go.RowKit

/-- A call. -/
structure OpD where
  kind : Int
  n : Int
  la : Option Addr
  len : Nat
  cap : Nat
  z : Obs
def OpD.arr (o : OpD) : Array Value := #[.int .i64 o.kind, .int .i64 o.n, .slice o.la o.len o.cap]
def odV (o : OpD) (i : Nat) : Value := if i = 0 then .int .i64 o.kind else if i = 1 then .int .i64 o.n else .slice o.la o.len o.cap
/-- Its objects lie. -/
def OpD.ok (w : World) (o : OpD) : Prop := o.z.length = o.len ∧ SrcO w (.slice o.la o.len o.cap) o.z ∧ -9223372036854775808 ≤ o.n ∧ o.n ≤ 9223372036854775807
/-- Calls at a. -/
def OpsD (w : World) (a : Option Addr) (len : Nat) (O : Nat → OpD) : Prop :=
  ∀ i, i < len → ∃ b o, a = some ⟨b, o, none⟩ ∧ w.rangeAt b (o + i * 3) (O i).arr.toList ∧ (O i).ok w
theorem cells34 : Try.prog.cellsOf 34 = 3 := by kernel_rfl
theorem cells38 : Try.prog.cellsOf 38 = 2 := by kernel_rfl
theorem cells30 : Try.prog.cellsOf 30 = 1 := by kernel_rfl
theorem two_of_take {cs : List Value} {o : Nat} {a b : Value} (h : (cs.drop o).take 2 = [a, b]) : cs[o]? = some a ∧ cs[o + 1]? = some b := by
  have h0 : ((cs.drop o).take 2)[0]? = some a := by rw [h]; rfl
  have h1 : ((cs.drop o).take 2)[1]? = some b := by rw [h]; rfl
  rw [List.getElem?_take_of_lt (by decide), List.getElem?_drop] at h0 h1
  exact ⟨by simpa using h0, h1⟩
section
variable {H : Type} {enc : TypeId × Value → H} {W : World}
set_option maxRecDepth 100000 in
theorem obj_in {n : Nat} {cs : List Value} {y : DataW H × List MemPlace} (hl : cs.length = 2) (h : DataW.trod enc Try.prog W 0 (fun _ => true) true n 38 cs = some y) : ∃ q : Ob, cs = encO q := by
  obtain ⟨xs, n, _, _, _, hxl, hfld⟩ := DataW.trod_struct Try.underlying38 h
  have f0 : DataW.trod enc Try.prog W 0 (fun _ => true) true n 3 ((cs.drop 0).take (Try.prog.cellsOf 3)) = xs[0]? := hfld 0 _ rfl
  have f1 : DataW.trod enc Try.prog W 0 (fun _ => true) true n 3 ((cs.drop 1).take (Try.prog.cellsOf 3)) = xs[1]? := hfld 1 _ rfl
  have hxl3 : xs.length = 2 := hxl
  rw [List.getElem?_eq_getElem (by omega), cells3] at f0 f1
  obtain ⟨z0, e0, _⟩ := int_in f0
  obtain ⟨z1, e1, _⟩ := int_in f1
  have g0 := at_drop e0
  have g1 := at_drop e1
  match cs, hl with
  | [a, b], _ =>
    simp at g0 g1
    subst g0; subst g1
    exact ⟨(z0, z1), rfl⟩
theorem recV_ofFn {l : Nat} {f : Nat → Ob} : ∀ j u, (recV encO ((List.range l).map f))[j]? = some u → ∃ i, i < l ∧ ∃ r, r < 2 ∧ j = i * 2 + r ∧ (encO (f i))[r]? = some u := by
  intro j u hj
  have hlt := (List.getElem?_eq_some_iff.1 hj).1
  rw [recV_len encO_len, List.length_map, List.length_range] at hlt
  refine ⟨j / 2, by omega, j % 2, by omega, by omega, ?_⟩
  have hi : ((List.range l).map f)[j / 2]? = some (f (j / 2)) := by
    rw [List.getElem?_map, List.getElem?_range (by omega)]
    rfl
  obtain ⟨v, hv⟩ : ∃ v, (encO (f (j / 2)))[j % 2]? = some v := ⟨_, List.getElem?_eq_getElem (by rw [encO_len]; omega)⟩
  have h2 := recV_at encO_len _ (j / 2) _ hi (j % 2) v hv
  rw [show j / 2 * 2 + j % 2 = j by omega, hj] at h2
  rw [hv, ← h2]
theorem objs_trod {n : Nat} {cs : List Value} {r : DataW H × List MemPlace} (h : DataW.trod enc Try.prog W 0 (fun _ => true) true n 30 cs = some r) : ∃ a len cap z, cs = [.slice a len cap] ∧ z.length = len ∧ SrcO W (.slice a len cap) z ∧ len ≤ cap := by
  rcases DataW.trod_slice Try.underlying30 h with ⟨hcs, _⟩ | ⟨x, l, c, elems, rest, m, _, hcs, _, _, hl, hm, hlen, hel, _, _⟩
  · exact ⟨none, 0, 0, [], hcs, rfl, ⟨none, 0, rfl, fun h => absurd h (Nat.lt_irrefl _)⟩, Nat.le_refl _⟩
  · have each : ∀ i, i < l → ∃ q : Ob, ∀ j, j < 2 → W.cell? ((x.add (i * 2)).add j) = (encO q)[j]? := by
      intro i hi
      have h1 := hel i hi
      rw [cells38, List.getElem?_eq_getElem (by omega)] at h1
      obtain ⟨cs, hc, ht⟩ := Option.bind_eq_some_iff.1 h1
      obtain ⟨_, hcl, hat⟩ := World.cells?_some hc
      obtain ⟨q, rfl⟩ := obj_in hcl ht
      exact ⟨q, hat⟩
    classical
    refine ⟨some x, l, c, (List.range l).map (fun i => if hi : i < l then Classical.choose (each i hi) else (0, 0)), hcs, by simp, ⟨some x, c, by simp, fun hl0 => ⟨x, rfl, fun j u hj => ?_⟩⟩, hl⟩
    obtain ⟨i, hi, r, hr, rfl, hu⟩ := recV_ofFn j u hj
    have h2 := Classical.choose_spec (each i hi) r hr
    rw [dif_pos hi] at hu
    rw [hu] at h2
    obtain ⟨q0, hat0⟩ := each 0 (by simpa using hl0)
    have h0 := hat0 0 (by decide)
    obtain ⟨b, o, sp⟩ := x
    have hsp : sp = none := by
      rw [show (encO q0)[0]? = some (.int .i64 q0.1) from rfl] at h0
      simpa [Addr.add] using World.cell?_spot h0
    subst hsp
    rw [add_plain, add_plain] at h2
    rw [add_plain, ← Nat.add_assoc]
    exact h2
theorem objs_of {d : DataW H} {p : List MemPlace} {a : Option Addr} {len cap : Nat} (h : DataW.Trod enc Try.prog W 0 (fun _ => true) true 30 (.slice a len cap) d p) : ∃ z, z.length = len ∧ SrcO W (.slice a len cap) z ∧ len ≤ cap := by
  obtain ⟨fuel, hf⟩ := h
  obtain ⟨a2, l2, c2, z, e, h1, h2⟩ := objs_trod hf
  simp [Value.cells] at e
  obtain ⟨rfl, rfl, rfl⟩ := e
  exact ⟨z, h1, h2⟩
theorem objs_len {w : World} {a : Option Addr} {len cap : Nat} {z : Obs} (h : SrcO w (.slice a len cap) z) : z.length = len := by
  obtain ⟨_, _, e, _⟩ := h
  injection e with _ e _
  exact e.symm
set_option maxRecDepth 100000 in
theorem obj_arg {base : Nat} {v : Value} {d : DataW H} {p : List MemPlace} (hv : Value.okWide Try.prog W .any base 38 v)
    (h : DataW.Trod enc Try.prog W 0 (fun _ => true) true 38 v d p) : ∃ x y : Int, v = .agg #[.int .i64 x, .int .i64 y] := by
  obtain ⟨A, rfl, hsz⟩ := okWide_struct Try.underlying38 hv
  rw [cells38] at hsz
  obtain ⟨fuel, hf⟩ := h
  obtain ⟨q, hq⟩ := obj_in (cs := A.toList) (by simpa using hsz) hf
  refine ⟨q.1, q.2, ?_⟩
  congr 1
  apply Array.ext'
  rw [hq]
  rfl
set_option maxRecDepth 100000 in
theorem opd_cells {n : Nat} {cs : List Value} {y : DataW H × List MemPlace} (hl : cs.length = 3) (h : DataW.trod enc Try.prog W 0 (fun _ => true) true n 34 cs = some y) : ∃ o : OpD, cs = o.arr.toList ∧ o.ok W := by
  obtain ⟨xs, n, _, _, _, hxl, hfld⟩ := DataW.trod_struct Try.underlying34 h
  have f0 : DataW.trod enc Try.prog W 0 (fun _ => true) true n 3 ((cs.drop 0).take (Try.prog.cellsOf 3)) = xs[0]? := hfld 0 _ rfl
  have f1 : DataW.trod enc Try.prog W 0 (fun _ => true) true n 3 ((cs.drop 1).take (Try.prog.cellsOf 3)) = xs[1]? := hfld 1 _ rfl
  have f2 : DataW.trod enc Try.prog W 0 (fun _ => true) true n 30 ((cs.drop 2).take (Try.prog.cellsOf 30)) = xs[2]? := hfld 2 _ rfl
  have hxl3 : xs.length = 3 := hxl
  rw [List.getElem?_eq_getElem (by omega), cells3] at f0 f1
  rw [List.getElem?_eq_getElem (by omega), cells30] at f2
  obtain ⟨z0, e0, _⟩ := int_in f0
  obtain ⟨z1, e1, hz1⟩ := int_in f1
  obtain ⟨a, len, cap, z, e2, hza, hzb, _⟩ := objs_trod f2
  have g0 := at_drop e0
  have g1 := at_drop e1
  have g3 := at_drop e2
  match cs, hl with
  | [a0, b0, d0], _ =>
    simp at g0 g1 g3
    subst g0; subst g1; subst g3
    exact ⟨⟨z0, z1, a, len, cap, z⟩, rfl, hza, hzb, hz1⟩
set_option maxRecDepth 100000 in
theorem opsd_of {d : DataW H} {p : List MemPlace} {a : Option Addr} {len cap : Nat}
    (h : DataW.Trod enc Try.prog W 0 (fun _ => true) true 22 (.slice a len cap) d p) : ∃ O, OpsD W a len O := by
  obtain ⟨fuel, hf⟩ := h
  rcases DataW.trod_slice Try.underlying22 hf with ⟨hcs, _⟩ | ⟨x, l, c, elems, rest, m, _, hcs, _, _, hl, hm, hlen, hel, _, _⟩
  · simp [Value.cells] at hcs
    obtain ⟨rfl, rfl, rfl⟩ := hcs
    exact ⟨fun _ => ⟨0, 0, none, 0, 0, []⟩, fun i hi => absurd hi (Nat.not_lt_zero _)⟩
  · simp [Value.cells] at hcs
    obtain ⟨rfl, rfl, rfl⟩ := hcs
    have each : ∀ i, i < len → ∃ o : OpD, o.ok W ∧ ∀ j, j < 3 → W.cell? ((x.add (i * 3)).add j) = o.arr.toList[j]? := by
      intro i hi
      have h1 := hel i hi
      rw [cells34, List.getElem?_eq_getElem (by omega)] at h1
      obtain ⟨cs, hc, ht⟩ := Option.bind_eq_some_iff.1 h1
      obtain ⟨_, hcl, hat⟩ := World.cells?_some hc
      obtain ⟨o, rfl, hok⟩ := opd_cells hcl ht
      exact ⟨o, hok, hat⟩
    have key : ∀ i, i < len → ∃ t : OpD, ∃ b o, some x = some (⟨b, o, none⟩ : Addr) ∧ W.rangeAt b (o + i * 3) t.arr.toList ∧ t.ok W := by
      intro i hi
      obtain ⟨b, o, spot⟩ := x
      have hspot : spot = none := by
        obtain ⟨t, _, hat⟩ := each 0 (by omega)
        have h0 := hat 0 (by omega)
        rw [show t.arr.toList[0]? = some (.int .i64 t.kind) from rfl] at h0
        simpa [Addr.add] using World.cell?_spot h0
      subst hspot
      obtain ⟨t, hok, hat⟩ := each i hi
      refine ⟨t, b, o, rfl, fun j v hv => ?_, hok⟩
      have hj : j < 3 := (List.getElem?_eq_some_iff.1 hv).1
      have a2 := hat j (by omega)
      rw [hv] at a2
      simp only [add_plain] at a2
      exact a2
    classical
    refine ⟨fun i => if hi : i < len then Classical.choose (key i hi) else ⟨0, 0, none, 0, 0, []⟩, fun i hi => ?_⟩
    have h := Classical.choose_spec (key i hi)
    simp only [dif_pos hi]
    exact h
end
/-- One call, in every later world. -/
theorem OpsD.one {w : World} {a : Option Addr} {len : Nat} {O : Nat → OpD} (h : OpsD w a len O) (k : Nat) (hk : k < len) : ∃ b o, a = some ⟨b, o, none⟩ ∧ b < w.heap.size ∧ (O k).ok w ∧ ∀ W, Below w.heap.size w W →
    W.cell? ⟨b, o + k * 3, none⟩ = some (.int .i64 (O k).kind) ∧ W.cell? ⟨b, o + k * 3 + 1, none⟩ = some (.int .i64 (O k).n) ∧ W.cell? ⟨b, o + k * 3 + 2, none⟩ = some (.slice (O k).la (O k).len (O k).cap) := by
  obtain ⟨b, o, rfl, hc, hok⟩ := h k hk
  refine ⟨b, o, rfl, World.block_lt_of_cell? _ _ (hc 0 _ rfl), hok, fun W hW => ?_⟩
  have hh : ∀ j v, (O k).arr.toList[j]? = some v → W.cell? ⟨b, o + k * 3 + j, none⟩ = some v := fun j v hv => by
    rw [hW.cell (World.block_lt_of_cell? _ _ (hc j v hv))]; exact hc j v hv
  exact ⟨hh 0 _ rfl, hh 1 _ rfl, hh 2 _ rfl⟩
end Go.Proofs.Ytagnipkannogoaa
