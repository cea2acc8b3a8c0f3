/-
  buddy's laws: ranges over Blocks: of a node that is not there; what a function that holds ranges leaves by.
-/
import Derived.Test.YtilcdnkjfbkpnaaBuGone
import Derived.Test.YtilcdnkjfbkpnaaBuKnown
namespace Go.Proofs.Ytilcdnkjfbkpnaa
open Go.RowKit Go.Shelf Go
attribute [local go_sem] Oper.semAt_some

theorem blocks_nil (w : World) (a : Value) : (binOp .eql 52 (.func (.func 36) #[] #[a]) .nilFunc).run Try.prog w = .ok (.bool false) w := by kernel_rfl

set_option maxRecDepth 100000 in
theorem gone_in (m : Nat) (_hm : 1 ≤ m) (l Bn : Nat) (q : Option Addr) (w0 : World) (h : BGone w0 q) (hc : w0.cell? ⟨Bn, 0, none⟩ = some (.pointer q)) :
    CallsIn Fence.wide m Try.prog 36 #[.func (.yield l) #[] #[], .pointer (some ⟨Bn, 0, none⟩)] w0 fun e W' => (∃ v, e = .returned v) ∧ Below w0.heap.size w0 W' := by
  refine callsIn_of_wp Try.func36 rfl trivial ?_ rfl
  simp only [Try.ntmps36, List.size_toArray, List.length_cons, List.length_nil, Nat.reduceAdd, Nat.reduceSub, Array.replicate_succ, Array.replicate_zero, List.push_toArray, List.append_toArray, List.nil_append, List.cons_append]
  gi_wp2_with (fail)
  refine ⟨trivial, (callsIn_wide.2 (next_gone h)).mono ?_⟩
  rintro e w1 ⟨rfl, hb1⟩
  have HB := Lib.hid (hb1.trans (((Below.refl _ w1).alloc (Nat.le_refl _) (.cells #[.int .i64 0, .int .i64 0] 42)).mono hb1.size))
  clear hb1
  gi_wp2_with (fail)
  refine wpIn_loop_rounds 1 ?_
  rw [roundsIn_succ]
  gi_wp2_with (fail)
  go_end0
  exact ⟨⟨_, rfl⟩, HB.out⟩

/-- A range over Blocks of a node that is not there: its body is never come to. -/
theorem range_gone (m : Nat) (hm : 3 ≤ m) (Bn : Nat) (q : Option Addr) {g : Operand} {ps : Array Tmp} {assign body : Code} {Q : Exit → Act → World → Prop} {a : Act} {w : World}
    (hg : a.eval g = .func (.func 36) #[] #[.pointer (some ⟨Bn, 0, none⟩)]) (hBn : w.cell? ⟨Bn, 0, none⟩ = some (.pointer q)) (hG : BGone w q)
    (hdone : ∀ (D : Nat) (W : World), w.heap.size ≤ D → Below w.heap.size w W → W.heap[D]? = some (.deferred (some [])) → Q .normal { a with defers := { target := .collected D, args := #[] } :: a.defers } W) :
    (Code.rangeFunc g ps assign body).wpIn Fence.wide m Try.prog Q a w := by
  have h1 : 1 ≤ m := by omega
  have hlt : Bn < w.heap.size := World.block_lt_of_cell? w ⟨Bn, 0, none⟩ hBn
  have hseq : SeqStopsK Fence.wide (m - 1) Try.prog 36 #[.pointer (some ⟨Bn, 0, none⟩)] (fun x : Empty => (nomatch x : Array Value)) (Below w.heap.size) (fun xs => xs = []) (fun _ => False) 0 w := by
    intro l J Jx W hW hJ _ _ hJ0
    refine (gone_in (m - 1) (by omega) l Bn q W (hG.later hW) (by rw [hW.cell (p := ⟨Bn, 0, none⟩) hlt]; exact hBn)).mono ?_
    rintro e W' ⟨h1, hb⟩
    exact ⟨h1, .inl ⟨[], rfl, hJ [] W _ none hJ0 (grown_none hb) (fun r e => by cases e)⟩⟩
  refine wpIn_rangeFunc_ownF rfl h1 (gf := 36) hg trivial (enters_of Try.func36 (by kernel_rfl) rfl) hseq belowK_t (belowK_b (Nat.le_refl _)) (Below.refl _ _) (fun x => nomatch x)
    (fun _ W => Below w.heap.size w W) (fun _ _ _ => False) (ownFrom_below (Nat.le_refl _) (Nat.le_refl _)) (fun _ _ _ _ _ hs _ _ => hs) (Below.refl _ _) (fun x => nomatch x)
    (fun _ x => nomatch x) (fun _ _ x => nomatch x) (fun D xs W hD _ hI hK => hdone D W hD hI hK) (fun _ _ _ _ _ _ h => h.elim)

/-- The blocks of ranges' deferred calls. -/
def colls (Ds : List Nat) : List Deferred := Ds.map fun D => { target := Target.collected D, args := #[] }
theorem colls_cons (D : Nat) (Ds : List Nat) : colls (D :: Ds) = { target := Target.collected D, args := #[] } :: colls Ds := rfl
theorem leaves_many {m : Nat} {fn : Func} {tmps : Array Value} {R : Ending → World → Prop} : ∀ (Ds : List Nat) (W : World), Ds.Nodup → (∀ D ∈ Ds, W.heap[D]? = some (.deferred (some []))) →
    (∀ W', Only (fun k => k ∈ Ds) W W' → W'.heap.size = W.heap.size → LeavesInM Fence.wide m Try.prog fn tmps R [] .returning W') → LeavesInM Fence.wide m Try.prog fn tmps R (colls Ds) .returning W
  | [], W, _, _, h => h W (Only.refl _ _) rfl
  | D :: Ds, W, hn, h1, h => by
    obtain ⟨hn1, hn2⟩ := List.nodup_cons.1 hn
    refine ⟨by simp, .inl ⟨D, _, rfl, run_takeDeferred (h1 D List.mem_cons_self), leaves_many Ds (W.putObj D (.deferred none)) hn2 (fun E hE => ?_) (fun W' ho hs => h W' ?_ ?_)⟩⟩
    · rw [World.putObj_heap_other (fun e => hn1 (by rw [← e]; exact hE))]
      exact h1 E (List.mem_cons_of_mem _ hE)
    · refine Only.trans ?_ (ho.mono fun k hk => List.mem_cons_of_mem _ hk)
      exact ⟨rfl, rfl, rfl, by simp [World.putObj], fun k _ hk => World.putObj_heap_other (fun e => hk (by rw [e]; exact List.mem_cons_self))⟩
    · rw [hs]; simp [World.putObj]
end Go.Proofs.Ytilcdnkjfbkpnaa
