/-
  Texts that this claim builds on, merged.
-/
import Derived.Test.YtkmjkkeldbocdaaDoorCsPure
import Derived.BigRegion
import Derived.Test.YtkmjkkeldbocdaaDoorCsRd
import Derived.Test.YtkmjkkeldbocdaaDoorM00
import Derived.Lib.Strings
import Derived.Laws.Tables
import Derived.Great.BuildSlice
import Derived.Deep.DeepCutAuto
import Derived.Deep.CutBlock
namespace Go.Proofs.YtkmjkkeldbocdaaDoor
/-! calls: the document's May of pages (layer 13), where no areas are in the program. -/
section
open Go.RowKit Go

/-- The range may be. -/
def PgsR (p c : Int) : Prop := 0 ≤ p ∧ p < 1024 ∧ 1 ≤ c ∧ c ≤ 1024 ∧ p + c ≤ 1024
instance (p c : Int) : Decidable (PgsR p c) := by unfold PgsR; infer_instance
set_option maxRecDepth 100000 in
theorem pgs_any (p c : Int) (w : World) : Calls Tryd.prog 49 #[.int .i64 p, .int .i64 c] w fun e w' => e = .returned (.bool (decide (PgsR p c))) ∧ w = w' := by
  by_cases h1 : 0 ≤ p
  · by_cases h2 : p < 1024
    · by_cases h3 : 1 ≤ c
      · by_cases h4 : c ≤ 1024
        · by_cases h5 : p + c ≤ 1024
          · rw [show decide (PgsR p c) = true from decide_eq_true ⟨h1, h2, h3, h4, h5⟩]
            go_enter Tryd.func49, Tryd.ntmps49
            go_wp2_with (fail)
            go_ret
            exact ⟨rfl, rfl⟩
          · rw [show decide (PgsR p c) = false from decide_eq_false (fun h => h5 h.2.2.2.2)]
            go_enter Tryd.func49, Tryd.ntmps49
            go_wp2_with (fail)
            go_ret
            exact ⟨rfl, rfl⟩
        · rw [show decide (PgsR p c) = false from decide_eq_false (fun h => h4 h.2.2.2.1)]
          go_enter Tryd.func49, Tryd.ntmps49
          go_wp2_with (fail)
          go_ret
          exact ⟨rfl, rfl⟩
      · rw [show decide (PgsR p c) = false from decide_eq_false (fun h => h3 h.2.2.1)]
        go_enter Tryd.func49, Tryd.ntmps49
        go_wp2_with (fail)
        go_ret
        exact ⟨rfl, rfl⟩
    · rw [show decide (PgsR p c) = false from decide_eq_false (fun h => h2 h.2.1)]
      go_enter Tryd.func49, Tryd.ntmps49
      go_wp2_with (fail)
      go_ret
      exact ⟨rfl, rfl⟩
  · rw [show decide (PgsR p c) = false from decide_eq_false (fun h => h1 h.1)]
    go_enter Tryd.func49, Tryd.ntmps49
    go_wp2_with (fail)
    go_ret
    exact ⟨rfl, rfl⟩
end
/-! calls: what Wrong says, what Bytes leaves, what a call that is handed in keeps. -/
section
open Go.RowKit Go
attribute [local go_sem] Oper.semAt_some

/-- How many bytes a load or a store is of. -/
def sizeC (q : CallM) (n : Nat) : Int := if q.kind = 9 ∨ q.kind = 13 then (n : Int) else q.size
def fewC (q : CallM) (n : Nat) : Bool := decide (sizeC q n < 1 ∨ 8 < sizeC q n)
def nodeC (g : Nat → Int) (q : CallM) : Bool := decide (q.node < 0 ∨ g 0 ≤ q.node)
def pagesC (q : CallM) : Bool := !decide (PgsR q.page q.count)
/-- Whether a call that may be is malformed on a machine that may be. -/
def badC (g : Nat → Int) (q : CallM) (n : Nat) : Bool :=
  if q.kind = 3 ∨ q.kind = 5 then pagesC q || decide (q.rights < 1 ∨ 3 < q.rights)
  else if q.kind = 4 ∨ q.kind = 6 ∨ q.kind = 7 then pagesC q
  else if q.kind = 8 ∨ q.kind = 9 then fewC q n || decide (q.addr < 0 ∨ 262144 ≤ q.addr ∨ q.addr / 256 ≠ (q.addr + sizeC q n - 1) / 256)
  else if q.kind = 10 then decide (sizeC q n < 1 ∨ 128 < sizeC q n)
  else if q.kind = 12 ∨ q.kind = 13 then fewC q n || decide (q.addr < 0 ∨ 128 < q.addr ∨ 128 < q.addr + sizeC q n)
  else if q.kind = 14 then !mayP g q.pk q.pm
  else if q.kind = 15 then pagesC q || !mayP g q.pk q.pm
  else if q.kind = 16 ∨ q.kind = 17 then decide (q.page < 0 ∨ 1023 < q.page)
  else if q.kind = 18 then pagesC q || nodeC g q
  else if q.kind = 19 ∨ q.kind = 20 then nodeC g q
  else false
def wrongC (g : Nat → Int) (q : CallM) (n : Nat) : Bool := !mayB g || (!mayC q n || badC g q n)
/-- What Bytes leaves: the form, or ErrArg and nothing. -/
def ByP (w : World) (ok : Bool) (L : List UInt8) (e : Ending) (w' : World) : Prop :=
  (ok = true ∧ ∃ v, e = .returned (.tuple #[v, .int .i64 0]) ∧ BytAt w.heap.size L v w' ∧ Below w.heap.size w w') ∨
  (ok = false ∧ ∃ a c, e = .returned (.tuple #[.slice a 0 c, .int .i64 2]) ∧ Below w.heap.size w w')
/-- A call as it is handed: the number of its bytes is bounded. -/
structure CsIn (q : CallM) (n : Nat) : Prop where
  ok : q.Ok
  pid : -9223372036854775808 ≤ q.pid ∧ q.pid ≤ 9223372036854775807
  node : -9223372036854775808 ≤ q.node ∧ q.node ≤ 9223372036854775807
  page : -9223372036854775808 ≤ q.page ∧ q.page ≤ 9223372036854775807
  count : -9223372036854775808 ≤ q.count ∧ q.count ≤ 9223372036854775807
  addr : -9223372036854775808 ≤ q.addr ∧ q.addr ≤ 9223372036854775807
  size : -9223372036854775808 ≤ q.size ∧ q.size ≤ 9223372036854775807
  n : n ≤ 2000
end
/-! What the laws of stage 19 want of the landed calls, whatever way they are written. -/
section
open Go.RowKit Go

/-- P: what the calls want of the world beside what they are handed (a package's variables). -/
structure CsOk (P : World → Prop) : Prop where
  later : ∀ {w w' : World}, P w → Below w.heap.size w w' → P w'
  may : ∀ {q : CallM} {a : Option Addr} {n c : Nat} {x : Nat → UInt8} {w : World}, P w → CsIn q n → Src w a n x → Calls Tryd.prog 13 #[.agg (q.cells a n c)] w fun e w' => e = .returned (.bool (mayC q n)) ∧ Below w.heap.size w w'
  bytes : ∀ {q : CallM} {a : Option Addr} {n c : Nat} {x : Nat → UInt8} {w : World}, P w → CsIn q n → Src w a n x → Calls Tryd.prog 12 #[.agg (q.cells a n c)] w (ByP w (mayC q n) (callL q x n))
  read : ∀ {g o n c : Nat} {x : Nat → UInt8} {w : World}, P w → n ≤ 2030 → n ≤ c → c ≤ maxLen → Src w (some ⟨g, o, none⟩) n x → Calls Tryd.prog 17 #[.slice (some ⟨g, o, none⟩) n c] w (RdP w n x)
  read0 : ∀ {a : Option Addr} {c : Nat} {x : Nat → UInt8} {w : World}, P w → Calls Tryd.prog 17 #[.slice a 0 c] w (RdP w 0 x)
  same : ∀ {q r : CallM} {a b : Option Addr} {n c m d : Nat} {x1 x2 : Nat → UInt8} {w : World}, CsIn q n → CsIn r m → Src w a n x1 → Src w b m x2 → Calls Tryd.prog 16 #[.agg (q.cells a n c), .agg (r.cells b m d)] w fun e w' => e = .returned (.bool (sameC q r (strB n x1) (strB m x2))) ∧ Below w.heap.size w w'
  wrong : ∀ {A : Array Value} {g : Nat → Int} {q : CallM} {a : Option Addr} {n c : Nat} {x : Nat → UInt8} {w : World}, P w → Cfg A g → CsIn q n → Src w a n x → Calls Tryd.prog 23 #[.agg A, .agg (q.cells a n c)] w fun e w' => e = .returned (.bool (wrongC g q n)) ∧ Below w.heap.size w w'
  mayr : ∀ {e : Int} {v : Nat} {a : Option Addr} {n c : Nat} {w : World}, n ≤ 2000 → -9223372036854775808 ≤ e → e ≤ 9223372036854775807 → v < 18446744073709551616 → Calls Tryd.prog 26 #[rsV e v a n c] w fun r w' => r = .returned (.bool (mayRs e v n)) ∧ Below w.heap.size w w'
  resb : ∀ {e : Int} {v : Nat} {a : Option Addr} {n c : Nat} {x : Nat → UInt8} {w : World}, n ≤ 2000 → -9223372036854775808 ≤ e → e ≤ 9223372036854775807 → v < 18446744073709551616 → Src w a n x → Calls Tryd.prog 25 #[rsV e v a n c] w (ByP w (mayRs e v n) (resL e.toNat v x n))
  readr : ∀ {g o n c : Nat} {x : Nat → UInt8} {w : World}, n ≤ 2030 → n ≤ c → c ≤ maxLen → Src w (some ⟨g, o, none⟩) n x → Calls Tryd.prog 20 #[.slice (some ⟨g, o, none⟩) n c] w (RrP w n x)
  readr0 : ∀ {a : Option Addr} {c : Nat} {x : Nat → UInt8} {w : World}, Calls Tryd.prog 20 #[.slice a 0 c] w (RrP w 0 x)
  samer : ∀ {e1 e2 : Int} {v1 v2 : Nat} {a1 a2 : Option Addr} {n1 n2 c1 c2 : Nat} {x1 x2 : Nat → UInt8} {w : World}, n1 ≤ 2030 → n2 ≤ 2030 → Src w a1 n1 x1 → Src w a2 n2 x2 → Calls Tryd.prog 28 #[rsV e1 v1 a1 n1 c1, rsV e2 v2 a2 n2 c2] w fun r w' => r = .returned (.bool (sameR e1 e2 v1 v2 (strB n1 x1) (strB n2 x2))) ∧ Below w.heap.size w w'
end
/-! calls, pure: forms read back; a form and a byte more or less. Of no program. -/
section
open Go Go.RowKit

theorem beq_strB {n m : Nat} {f g : Nat → UInt8} : ((strB n f).toList == (strB m g).toList) = true ↔ lisX f n = lisX g m := by
  rw [beq_iff_eq, Lib.toList_data, Lib.toList_data, strB_toList, strB_toList]
  exact Iff.rfl
theorem lisX_ext {f g : Nat → UInt8} {n : Nat} (h : ∀ i, i < n → f i = g i) : lisX f n = lisX g n := List.map_congr_left fun i hi => h i (List.mem_range.1 hi)
theorem lisX_get {f : Nat → UInt8} {n i : Nat} (h : i < n) : (lisX f n)[i]? = some (f i) := by
  unfold lisX
  rw [List.getElem?_map, List.getElem?_range h]
  rfl
theorem lisX_inj {f g : Nat → UInt8} {n m : Nat} (h : lisX f n = lisX g m) : n = m ∧ ∀ i, i < n → f i = g i := by
  have hl := congrArg List.length h
  rw [lisX_len, lisX_len] at hl
  refine ⟨hl, fun i hi => ?_⟩
  have h2 := congrArg (fun l => l[i]?) h
  rw [lisX_get hi, lisX_get (by omega)] at h2
  exact Option.some.inj h2
theorem word_get {v i : Nat} (h : i < 8) : (wordL v)[i]? = some (UInt8.ofNat (v / 256 ^ i)) := by
  unfold wordL
  rw [List.getElem?_map, List.getElem?_range h]
  rfl
theorem numT_word {f : Nat → Nat} {v : Nat} (hv : v < 18446744073709551616) (h : ∀ i, i < 8 → f i = v / 256 ^ i % 256) : numT f 8 = v := by
  have e0 := h 0 (by decide)
  have e1 := h 1 (by decide)
  have e2 := h 2 (by decide)
  have e3 := h 3 (by decide)
  have e4 := h 4 (by decide)
  have e5 := h 5 (by decide)
  have e6 := h 6 (by decide)
  have e7 := h 7 (by decide)
  rw [show (256 : Nat) ^ 0 = 1 from rfl] at e0
  rw [show (256 : Nat) ^ 1 = 256 from rfl] at e1
  rw [show (256 : Nat) ^ 2 = 65536 from rfl] at e2
  rw [show (256 : Nat) ^ 3 = 16777216 from rfl] at e3
  rw [show (256 : Nat) ^ 4 = 4294967296 from rfl] at e4
  rw [show (256 : Nat) ^ 5 = 1099511627776 from rfl] at e5
  rw [show (256 : Nat) ^ 6 = 281474976710656 from rfl] at e6
  rw [show (256 : Nat) ^ 7 = 72057594037927936 from rfl] at e7
  show (((((((0 * 256 + f 7) * 256 + f 6) * 256 + f 5) * 256 + f 4) * 256 + f 3) * 256 + f 2) * 256 + f 1) * 256 + f 0 = v
  omega
theorem numT_ext {f g : Nat → Nat} (h : ∀ i, i < 8 → f i = g i) : ∀ k, k ≤ 8 → numT f k = numT g k
  | 0, _ => rfl
  | k + 1, hk => by
    unfold numT
    rw [numT_ext h k (by omega), h (7 - k) (by omega)]
theorem numB_word {v : Nat} (hv : v < 18446744073709551616) (T : List UInt8) : numB (wordL v ++ T) 0 = v := by
  unfold numB
  refine numT_word hv fun i hi => ?_
  unfold atB
  rw [Nat.zero_add, List.getElem?_append_left (by rw [wordL_len]; exact hi), word_get hi]
  exact UInt8.toNat_ofNat
theorem numB_shift (L T : List UInt8) (p : Nat) : numB (L ++ T) (L.length + p) = numB T p := by
  unfold numB
  refine numT_ext (fun i _ => ?_) 8 (Nat.le_refl _)
  unfold atB
  rw [List.getElem?_append_right (by omega), show L.length + p + i - L.length = p + i by omega]
theorem numB_flat : ∀ (NS : List Nat) (T : List UInt8) (j : Nat), (∀ x ∈ NS, x < 18446744073709551616) → ∀ hj : j < NS.length, numB (NS.flatMap wordL ++ T) (8 * j) = NS[j]
  | v :: NS, T, 0, h, _ => by
    rw [List.flatMap_cons, List.append_assoc]
    exact numB_word (h v (List.mem_cons_self ..)) _
  | v :: NS, T, j + 1, h, hj => by
    have hj2 : j < NS.length := by simpa using hj
    have ih := numB_flat NS T j (fun x hx => h x (List.mem_cons_of_mem _ hx)) hj2
    rw [List.flatMap_cons, List.append_assoc, show 8 * (j + 1) = (wordL v).length + 8 * j by rw [wordL_len]; omega, numB_shift, ih]
    rfl
theorem numX_list (x : Nat → UInt8) (n p : Nat) : numX x n p = numB (lisX x n) p := by
  unfold numX numB
  refine numT_ext (fun i _ => ?_) 8 (Nat.le_refl _)
  unfold numF atB
  by_cases h : p + i < n
  · rw [if_pos h, lisX_get h]
  · rw [if_neg h, List.getElem?_eq_none (by rw [lisX_len]; omega)]
theorem numX_pre {x y : Nat → UInt8} {n m p : Nat} (h : ∀ i, i < n → y i = x i) (hp : p + 8 ≤ n) (hm : n ≤ m) : numX y m p = numX x n p := by
  unfold numX
  refine numT_ext (fun i hi => ?_) 8 (Nat.le_refl _)
  unfold numF
  rw [if_pos (by omega), if_pos (by omega), h _ (by omega)]
theorem flat_len (NS : List Nat) : (NS.flatMap wordL).length = 8 * NS.length := by
  induction NS with
  | nil => rfl
  | cons v NS ih => rw [List.flatMap_cons, List.length_append, wordL_len, ih, List.length_cons]; omega
/-- The numbers of a form. -/
def nsL (q : CallM) (n : Nat) : List Nat := q.kind :: (listN q ++ if hasK q.kind then [n] else [])
theorem callL_flat (q : CallM) (x : Nat → UInt8) (n : Nat) : callL q x n = (nsL q n).flatMap wordL ++ (if hasK q.kind then lisX x n else []) := by
  unfold callL headL nsL
  rw [List.take_length]
  by_cases h : hasK q.kind = true
  · rw [if_pos h, if_pos h, if_pos h]
    simp [List.flatMap_append]
  · rw [if_neg h, if_neg h, if_neg h]
    simp
theorem nsL_len (q : CallM) (n : Nat) : (nsL q n).length = 1 + lenK q.kind + (if hasK q.kind then 1 else 0) := by
  unfold nsL
  rw [List.length_cons, List.length_append, listN_len]
  by_cases h : hasK q.kind = true
  · rw [if_pos h, if_pos h]; simp; omega
  · rw [if_neg h, if_neg h]; simp; omega
theorem nsL_lt {q : CallM} (hq : q.Ok) {n : Nat} (hn : n < 18446744073709551616) : ∀ x ∈ nsL q n, x < 18446744073709551616 := by
  intro x hx
  unfold nsL at hx
  rcases List.mem_cons.1 hx with rfl | hx
  · have := hq.kind; omega
  · rcases List.mem_append.1 hx with hx | hx
    · exact listN_lt hq x hx
    · by_cases h : hasK q.kind = true
      · rw [if_pos h] at hx
        rw [List.mem_singleton.1 hx]
        exact hn
      · rw [if_neg h] at hx
        exact absurd hx List.not_mem_nil
theorem callL_len (q : CallM) (x : Nat → UInt8) (n : Nat) : (callL q x n).length = 8 + 8 * lenK q.kind + (if hasK q.kind then 8 + n else 0) := by
  rw [callL_flat, List.length_append, flat_len, nsL_len]
  by_cases h : hasK q.kind = true
  · rw [if_pos h, if_pos h, if_pos h, lisX_len]; omega
  · rw [if_neg h, if_neg h, if_neg h]; simp; omega
theorem callL_num {q : CallM} (hq : q.Ok) {n : Nat} (hn : n < 18446744073709551616) (x : Nat → UInt8) (j : Nat) (hj : j < (nsL q n).length) : numB (callL q x n) (8 * j) = (nsL q n)[j] := by
  rw [callL_flat]
  exact numB_flat _ _ _ (nsL_lt hq hn) hj
theorem row_inj {q r : CallM} (h : q.row = r.row) : q = r := by
  obtain ⟨a1, a2, a3, a4, a5, a6, a7, a8, a9, a10, a11⟩ := q
  obtain ⟨b1, b2, b3, b4, b5, b6, b7, b8, b9, b10, b11⟩ := r
  unfold CallM.row at h
  simp only [List.cons.injEq, and_true] at h
  obtain ⟨h1, h2, h3, h4, h5, h6, h7, h8, h9, h10, h11⟩ := h
  have e1 : a1 = b1 := by omega
  have e8 : a8 = b8 := by omega
  have e9 : a9 = b9 := by omega
  have e10 : a10 = b10 := by omega
  have e11 : a11 = b11 := by omega
  subst e1 h2 h3 h4 h5 h6 h7 e8 e9 e10 e11
  rfl
theorem mayC_parts {q : CallM} {n : Nat} (h : mayC q n = true) : okK q.kind = true ∧ n ≤ 8 ∧ (hasK q.kind = true ∨ n = 0) ∧ (ofN q.kind fun i => (listN q).getD i 0) = q := by
  unfold mayC at h
  simp only [Bool.and_eq_true, Bool.or_eq_true, decide_eq_true_eq] at h
  exact ⟨h.1, h.2.1, h.2.2.1, row_inj (eq_of_beq h.2.2.2)⟩
theorem callL_ext {q : CallM} {x y : Nat → UInt8} {n : Nat} (h : ∀ j, j < n → y j = x j) : callL q y n = callL q x n := by
  rw [callL_flat, callL_flat, lisX_ext h]
/-- A form is read as what was written. -/
theorem form_back {q : CallM} (hq : q.Ok) {n : Nat} {x : Nat → UInt8} (hm : mayC q n = true) :
    numX (fun i => (callL q x n).getD i 0) (callL q x n).length 0 = q.kind ∧ qX (fun i => (callL q x n).getD i 0) (callL q x n).length q.kind = q ∧ mT q.kind (callL q x n).length = n ∧
      (∀ j, j < n → shX (fun i => (callL q x n).getD i 0) (atK q.kind + 8) j = x j) ∧ okC (fun i => (callL q x n).getD i 0) (callL q x n).length = true := by
  obtain ⟨hok, hn8, hh, hof⟩ := mayC_parts hm
  have hnum : ∀ p, numX (fun i => (callL q x n).getD i 0) (callL q x n).length p = numB (callL q x n) p := fun p => by rw [numX_list, lisX_self]
  have hlen := callL_len q x n
  have h0 : numB (callL q x n) 0 = q.kind := by
    have h := callL_num hq (n := n) (by omega) x 0 (by rw [nsL_len]; omega)
    exact h
  have hq2 : qX (fun i => (callL q x n).getD i 0) (callL q x n).length q.kind = q := by
    unfold qX
    have e : ∀ i, (rdL (fun i => (callL q x n).getD i 0) (callL q x n).length (lenK q.kind) (lenK q.kind)).getD i 0 = (listN q).getD i 0 := fun i => by
      by_cases hi : i < lenK q.kind
      · rw [rdL_at _ _ _ hi, if_pos hi, hnum]
        have h := callL_num hq (n := n) (by omega) x (i + 1) (by rw [nsL_len]; omega)
        rw [show 8 + 8 * i = 8 * (i + 1) by omega, h]
        unfold nsL
        have hi2 : i < (listN q).length := by rw [listN_len]; exact hi
        rw [List.getElem_cons_succ, List.getElem_append_left hi2, List.getD_eq_getElem?_getD, List.getElem?_eq_getElem hi2]
        rfl
      · rw [List.getD_eq_getElem?_getD, List.getD_eq_getElem?_getD, List.getElem?_eq_none (by rw [rdL_len]; omega), List.getElem?_eq_none (by rw [listN_len]; omega)]
    have e2 : (fun i => (rdL (fun i => (callL q x n).getD i 0) (callL q x n).length (lenK q.kind) (lenK q.kind)).getD i 0) = fun i => (listN q).getD i 0 := funext e
    rw [e2]
    exact hof
  have hmT : mT q.kind (callL q x n).length = n := by
    unfold mT hasT atK
    rw [hlen]
    by_cases h : hasK q.kind = true
    · rw [h, Bool.true_and, if_pos (by exact decide_eq_true (by simp)), if_pos rfl]
      omega
    · have : n = 0 := hh.resolve_left h
      rw [if_neg (by simp [h])]
      exact this.symm
  have hsh : ∀ j, j < n → shX (fun i => (callL q x n).getD i 0) (atK q.kind + 8) j = x j := fun j hj => by
    have h : hasK q.kind = true := hh.resolve_right (by omega)
    unfold shX atK
    have e : (callL q x n)[8 + 8 * lenK q.kind + 8 + j]? = some (x j) := by
      rw [callL_flat, List.getElem?_append_right (by rw [flat_len, nsL_len, if_pos h]; omega), flat_len, nsL_len, if_pos h, if_pos h, show 8 + 8 * lenK q.kind + 8 + j - 8 * (1 + lenK q.kind + 1) = j by omega]
      exact lisX_get hj
    show (callL q x n).getD _ 0 = _
    rw [List.getD_eq_getElem?_getD, e]
    rfl
  refine ⟨by rw [hnum, h0], hq2, hmT, hsh, ?_⟩
  unfold okC
  rw [hnum, h0, hq2, hmT, hok, hm, decide_eq_true hq.kind, Bool.true_and, Bool.true_and, Bool.true_and]
  have hc : callL q (shX (fun i => (callL q x n).getD i 0) (atK q.kind + 8)) n = callL q x n := callL_ext hsh
  rw [hc]
  unfold strL
  exact beq_strB.2 rfl
/-- What is read, as it lies. -/
theorem okC_parts {x : Nat → UInt8} {n : Nat} (h : okC x n = true) : numX x n 0 ≤ 255 ∧ okK (numX x n 0) = true ∧ mayC (qX x n (numX x n 0)) (mT (numX x n 0) n) = true ∧ callL (qX x n (numX x n 0)) (shX x (atK (numX x n 0) + 8)) (mT (numX x n 0) n) = lisX x n := by
  unfold okC at h
  simp only [Bool.and_eq_true, decide_eq_true_eq] at h
  obtain ⟨h1, h2, h3, h4⟩ := h
  refine ⟨h1, h2, h3, ?_⟩
  unfold strL at h4
  have h5 := beq_strB.1 h4
  rw [lisX_self] at h5
  exact h5
theorem qX_ok {x : Nat → UInt8} {n k : Nat} (hk : k ≤ 255) : (qX x n k).Ok := ofN_ok hk fun _ => rdL_lt ..
theorem qX_kind (x : Nat → UInt8) (n k : Nat) : (qX x n k).kind = k := ofN_kind ..
theorem okC_len {x : Nat → UInt8} {n : Nat} (h : okC x n = true) : 8 ≤ n ∧ (hasK (numX x n 0) = false → n = 8 + 8 * lenK (numX x n 0)) ∧ (hasK (numX x n 0) = true → 32 ≤ n ∧ numX x n 24 = n - 32) := by
  obtain ⟨h1, h2, h3, h4⟩ := okC_parts h
  have hl := congrArg List.length h4
  have hq := qX_ok (x := x) (n := n) h1
  have hk := qX_kind x n (numX x n 0)
  rw [callL_len, lisX_len, hk] at hl
  refine ⟨by omega, fun hf => by rw [hf] at hl; simp at hl; omega, fun ht => ?_⟩
  have h8 := (mayC_parts h3).2.1
  have hlk := hasK_len ht
  rw [ht, if_pos rfl, hlk] at hl
  refine ⟨by omega, ?_⟩
  have hj : 3 < (nsL (qX x n (numX x n 0)) (mT (numX x n 0) n)).length := by rw [nsL_len, hk, ht, if_pos rfl, hlk]; omega
  have e := callL_num hq (n := mT (numX x n 0) n) (by omega) (shX x (atK (numX x n 0) + 8)) 3 hj
  rw [h4, ← numX_list] at e
  have e2 : (nsL (qX x n (numX x n 0)) (mT (numX x n 0) n))[3] = mT (numX x n 0) n := by
    have hll : (listN (qX x n (numX x n 0))).length = 2 := by rw [listN_len, hk, hlk]
    have e3 : (nsL (qX x n (numX x n 0)) (mT (numX x n 0) n))[3]? = some (mT (numX x n 0) n) := by
      unfold nsL
      rw [hk, ht, if_pos rfl, List.getElem?_cons_succ, List.getElem?_append_right (by omega), hll]
      rfl
    rw [List.getElem?_eq_getElem hj] at e3
    exact Option.some.inj e3
  rw [e2] at e
  rw [show (24 : Nat) = 8 * 3 from rfl, e]
  omega
/-- Of two that begin alike only one is a form. -/
theorem okC_unlike {x y : Nat → UInt8} {n m : Nat} (h : okC x n = true) (hm : n < m) (hxy : ∀ i, i < n → y i = x i) : okC y m = false := by
  cases h2 : okC y m with
  | false => rfl
  | true =>
    exfalso
    obtain ⟨a1, a2, a3⟩ := okC_len h
    obtain ⟨b1, b2, b3⟩ := okC_len h2
    rw [numX_pre hxy (by omega) (by omega)] at b2 b3
    cases hh : hasK (numX x n 0) with
    | false =>
      have := a2 hh
      have := b2 hh
      omega
    | true =>
      obtain ⟨a4, a5⟩ := a3 hh
      obtain ⟨b4, b5⟩ := b3 hh
      rw [numX_pre hxy (by omega) (by omega)] at b5
      omega
/-- Results. -/
theorem resL_flat (e v : Nat) (x : Nat → UInt8) (n : Nat) : resL e v x n = [e, v, n].flatMap wordL ++ lisX x n := by
  unfold resL
  simp
theorem resL_len (e v : Nat) (x : Nat → UInt8) (n : Nat) : (resL e v x n).length = 24 + n := by
  rw [resL_flat, List.length_append, flat_len, lisX_len]
  rfl
theorem resL_num {e v n : Nat} (he : e < 18446744073709551616) (hv : v < 18446744073709551616) (hn : n < 18446744073709551616) (x : Nat → UInt8) : numB (resL e v x n) 0 = e ∧ numB (resL e v x n) 8 = v ∧ numB (resL e v x n) 16 = n := by
  have hlt : ∀ y ∈ [e, v, n], y < 18446744073709551616 := by
    intro y hy
    simp only [List.mem_cons, List.not_mem_nil, or_false] at hy
    rcases hy with rfl | rfl | rfl <;> assumption
  rw [resL_flat]
  exact ⟨numB_flat [e, v, n] (lisX x n) 0 hlt (show 0 < 3 by decide), numB_flat [e, v, n] (lisX x n) 1 hlt (show 1 < 3 by decide), numB_flat [e, v, n] (lisX x n) 2 hlt (show 2 < 3 by decide)⟩
theorem resL_ext {e v : Nat} {x y : Nat → UInt8} {n : Nat} (h : ∀ j, j < n → y j = x j) : resL e v y n = resL e v x n := by
  rw [resL_flat, resL_flat, lisX_ext h]
theorem res_back {e v n : Nat} {x : Nat → UInt8} (he : e ≤ 999) (hv : v < 18446744073709551616) (hm : mayRs (e : Int) v n = true) :
    numX (fun i => (resL e v x n).getD i 0) (resL e v x n).length 0 = e ∧ numX (fun i => (resL e v x n).getD i 0) (resL e v x n).length 8 = v ∧ (resL e v x n).length - 24 = n ∧
      (∀ j, j < n → shX (fun i => (resL e v x n).getD i 0) 24 j = x j) ∧ okX (fun i => (resL e v x n).getD i 0) (resL e v x n).length = true := by
  have hn8 : n ≤ 8 := by
    unfold mayRs at hm
    by_cases h : (e : Int) < 0 ∨ 999 < (e : Int) ∨ 8 < n
    · rw [if_pos h] at hm; cases hm
    · omega
  have hnum : ∀ p, numX (fun i => (resL e v x n).getD i 0) (resL e v x n).length p = numB (resL e v x n) p := fun p => by rw [numX_list, lisX_self]
  obtain ⟨e0, e1, _⟩ := resL_num (e := e) (v := v) (n := n) (by omega) hv (by omega) x
  have hlen := resL_len e v x n
  have hsh : ∀ j, j < n → shX (fun i => (resL e v x n).getD i 0) 24 j = x j := fun j hj => by
    unfold shX
    have e3 : (resL e v x n)[24 + j]? = some (x j) := by
      rw [resL_flat, List.getElem?_append_right (by rw [flat_len]; simp), flat_len, show 24 + j - 8 * [e, v, n].length = j by simp]
      exact lisX_get hj
    show (resL e v x n).getD _ 0 = _
    rw [List.getD_eq_getElem?_getD, e3]
    rfl
  refine ⟨by rw [hnum, e0], by rw [hnum, e1], by omega, hsh, ?_⟩
  unfold okX
  rw [hnum, hnum, e0, e1, show (resL e v x n).length - 24 = n by omega, hm, decide_eq_true he, decide_eq_true (show 24 ≤ (resL e v x n).length by omega), Bool.true_and, Bool.true_and, Bool.true_and]
  have hc : resL e v (shX (fun i => (resL e v x n).getD i 0) 24) n = resL e v x n := resL_ext hsh
  rw [hc]
  unfold strL
  exact beq_strB.2 rfl
theorem okX_parts {x : Nat → UInt8} {n : Nat} (h : okX x n = true) : numX x n 0 ≤ 999 ∧ 24 ≤ n ∧ mayRs (numX x n 0 : Int) (numX x n 8) (n - 24) = true ∧ resL (numX x n 0) (numX x n 8) (shX x 24) (n - 24) = lisX x n := by
  unfold okX at h
  simp only [Bool.and_eq_true, decide_eq_true_eq] at h
  obtain ⟨h1, h2, h3, h4⟩ := h
  refine ⟨h1, h2, h3, ?_⟩
  unfold strL at h4
  have h5 := beq_strB.1 h4
  rw [lisX_self] at h5
  exact h5
theorem okX_len {x : Nat → UInt8} {n : Nat} (hn : n ≤ 100000) (h : okX x n = true) : 24 ≤ n ∧ numX x n 16 = n - 24 := by
  obtain ⟨h1, h2, h3, h4⟩ := okX_parts h
  refine ⟨h2, ?_⟩
  rw [numX_list, ← h4]
  exact (resL_num (by omega) (numX_lt ..) (by omega) _).2.2
theorem okX_unlike {x y : Nat → UInt8} {n m : Nat} (hm1 : m ≤ 100000) (h : okX x n = true) (hm : n < m) (hxy : ∀ i, i < n → y i = x i) : okX y m = false := by
  cases h2 : okX y m with
  | false => rfl
  | true =>
    exfalso
    obtain ⟨a1, a2⟩ := okX_len (by omega) h
    obtain ⟨b1, b2⟩ := okX_len hm1 h2
    rw [numX_pre hxy (by omega) (by omega)] at b2
    omega
end
/-! calls: what is read of a form that lies; bytes of the call's own as they are handed on. -/
section
open Go.RowKit Go

theorem Src.same {w : World} {a : Option Addr} {n : Nat} {x y : Nat → UInt8} (S : Src w a n x) (h : ∀ j, j < n → x j = y j) : Src w a n y := fun h0 => by
  obtain ⟨ad, e, hc⟩ := S h0
  exact ⟨ad, e, fun j hj => by rw [hc j hj]; unfold byV; rw [h j hj]⟩
theorem rdP_back {q : CallM} (hq : q.Ok) {n : Nat} {x : Nat → UInt8} (hm : mayC q n = true) {w w' : World} {e : Ending} (h : RdP w (callL q x n).length (fun i => (callL q x n).getD i 0) e w') :
    ∃ a c, e = .returned (.tuple #[.agg (q.cells a n c), .int .i64 0]) ∧ Src w' a n x ∧ Below w.heap.size w w' := by
  obtain ⟨h0, h1, h2, h3, h4⟩ := form_back hq (x := x) hm
  unfold RdP at h
  rw [h0, h1, h2, h4] at h
  rcases h with ⟨_, a, c, rfl, hs, hb⟩ | ⟨h, _⟩
  · exact ⟨a, c, rfl, hs.same h3, hb⟩
  · cases h
theorem rrP_back {e0 v n : Nat} {x : Nat → UInt8} (he : e0 ≤ 999) (hv : v < 18446744073709551616) (hm : mayRs (e0 : Int) v n = true) {w w' : World} {e : Ending} (h : RrP w (resL e0 v x n).length (fun i => (resL e0 v x n).getD i 0) e w') :
    ∃ a c, e = .returned (.tuple #[rsV (e0 : Int) v a n c, .int .i64 0]) ∧ Src w' a n x ∧ Below w.heap.size w w' := by
  obtain ⟨h0, h1, h2, h3, h4⟩ := res_back he hv (x := x) hm
  unfold RrP at h
  rw [h0, h1, h2, h4] at h
  rcases h with ⟨_, a, c, rfl, hs, hb⟩ | ⟨h, _⟩
  · exact ⟨a, c, rfl, hs.same h3, hb⟩
  · cases h
theorem byt_slice {base : Nat} {L : List UInt8} {v : Value} {W : World} (h : BytAt base L v W) (h0 : 0 < L.length) :
    ∃ g cap, v = .slice (some ⟨g, 0, none⟩) L.length cap ∧ L.length ≤ cap ∧ cap ≤ maxLen ∧ base ≤ g ∧ Src W (some ⟨g, 0, none⟩) L.length (fun i => L.getD i 0) := by
  have h2 := h
  obtain ⟨hl, ⟨rfl, h1⟩ | ⟨g, cap, cur, rfl, hb, hh, hnc, hcm, hsz, ht⟩⟩ := h
  · omega
  · refine ⟨g, cap, rfl, hnc, hcm, hb, ?_⟩
    have h3 : BytAt base (lisX (fun i => L.getD i 0) L.length) (.slice (some ⟨g, 0, none⟩) L.length cap) W := by rw [lisX_self]; exact h2
    exact src_byt h3
theorem callL_pos (q : CallM) (x : Nat → UInt8) (n : Nat) : 8 ≤ (callL q x n).length := by
  rw [callL_len]
  omega
theorem callL_le {q : CallM} {x : Nat → UInt8} {n : Nat} (h : n ≤ 8) : (callL q x n).length ≤ 64 := by
  rw [callL_len]
  have := lenK_le q.kind
  split <;> omega
end
/-! calls: a call that lies in a block of its own, loaded whole. -/
section
open Go.RowKit Go
attribute [local go_sem] Oper.semAt_some

theorem wpList_load_call {ops : Array Oper} {rest : List Oper} {o : Oper} {a : Act} {w : World} {Q : Exit → Act → World → Prop} {q : CallM} {ad : Option Addr} {n c : Nat} (hw : Region.wanted o (yielded ops a.tmps) = true) (x : Operand) (ho : o.op = .load 29 x) (b : Nat) (hx : a.eval x = .pointer (some ⟨b, 0, none⟩))
    (hB : w.heap[b]? = some (.cells (q.cells ad n c) 29 (0, 0))) (h : wpList Tryd.prog ops Q rest (a.put o.dst (.agg (q.cells ad n c))) w) : wpList Tryd.prog ops Q (o :: rest) a w :=
  BigFrame.wpList_want hw fun _ hK => wp_load_row 29 x ho b hx 29 _ (0, 0) _ hB Tryd.underlying29 rfl sizeCall (hK _ _ h)
theorem load_callB {W : World} {b : Nat} {q : CallM} {a : Option Addr} {n c : Nat} (h : W.heap[b]? = some (.cells (q.cells a n c) 29 (0, 0))) : (loadVar 29 ⟨b, 0, none⟩).run Tryd.prog W = .ok (.agg (q.cells a n c)) W :=
  run_loadVar_row (P := Tryd.prog) W b 29 29 _ (0, 0) _ h Tryd.underlying29 rfl sizeCall
end
/-! A config as a value: its cells one by one; a config stored whole. -/
section
open Go.RowKit Go

/-- The cells of the config g. -/
def ofG (g : Nat → Int) : Array Value := Array.ofFn (n := 94) fun i => Value.int .i64 (g i)
theorem cfg_ofG (g : Nat → Int) : Cfg (ofG g) g := ⟨by simp [ofG], fun i h => by simp [ofG, h]⟩

def updG (g : Nat → Int) (i : Nat) (x : Int) (j : Nat) : Int := if j = i then x else g j
theorem Cfg.set {A : Array Value} {g : Nat → Int} (C : Cfg A g) (i : Nat) (x : Int) : Cfg (A.setIfInBounds i (.int .i64 x)) (updG g i x) := by
  refine ⟨by simp [C.size], fun j hj => ?_⟩
  unfold updG
  by_cases h : j = i
  · subst h
    rw [if_pos rfl, Array.getElem?_setIfInBounds_self_of_lt (by rw [C.size]; exact hj)]
  · rw [if_neg h, Array.getElem?_setIfInBounds_ne (by omega)]
    exact C.get j hj
theorem Cfg.ext {A : Array Value} {g h : Nat → Int} (C : Cfg A g) (e : ∀ i, i < 94 → g i = h i) : Cfg A h := ⟨C.size, fun i hi => by rw [C.get i hi, e i hi]⟩

set_option maxRecDepth 100000 in
/-- A whole config into its block, the last one and the one ahead of it. -/
theorem store_last (w : World) {Z L : Array Value} (hz : Z.size = 94) {g : Nat → Int} (C : Cfg L g) :
    (storeVar 50 ⟨w.heap.size, 0, none⟩ (.agg L)).run Tryd.prog (w.alloc (.cells Z 50)) = .ok () (w.alloc (.cells L 50)) :=
  run_storeVar_new (P := Tryd.prog) w 50 Z L (by rw [C.size]; kernel_rfl) (by rw [hz, C.size]) C.one
set_option maxRecDepth 100000 in
theorem store_ahead (w : World) {Z L : Array Value} (ob : Obj) (hz : Z.size = 94) {g : Nat → Int} (C : Cfg L g) :
    (storeVar 50 ⟨w.heap.size, 0, none⟩ (.agg L)).run Tryd.prog ((w.alloc (.cells Z 50)).alloc ob) = .ok () ((w.alloc (.cells L 50)).alloc ob) := by
  rw [run_storeVar_row _ _ _ _ Z L (heap_alloc2_old w (.cells Z 50) ob) (by rw [C.size]; kernel_rfl) (by rw [hz, C.size]) C.one, setRow_alloc_old _ _ _ _ (by simp), World.setRow_alloc_new]
set_option maxRecDepth 100000 in
theorem cfgInfo {A : Array Value} {g : Nat → Int} (C : Cfg A g) : (Tryd.prog.info? 50).map (·.size) = some A.size := by rw [C.size]; kernel_rfl
end
/-! calls' laws: least, copied. -/
section
open Go.RowKit Go
attribute [local go_sem] Oper.semAt_some

/-- The law's own config: one node, of four frames when it is made. -/
def leG (f : Bool) (q : Nat) : Int := if q = 0 then 1 else if q = 1 then 1 else if q = 18 ∧ f = true then 4 else 0
theorem builtLeast : Tryd.prog.built 50 [(0, .int .i64 1), (1, .int .i64 1)] = some (ofG (leG false)) := by kernel_rfl
theorem least_may : mayB (leG true) = true := by decide +kernel
/-- The config in its box, and the result's cell. -/
structure LeAt (w : World) (Z : Array Value) (G : Nat → Int) (W : World) : Prop where
  cfg : ∃ A, CfgAt W (w.heap.size + 1) A G
  res : W.heap[w.heap.size]? = some (.cells Z 50 (0, 0))
  bel : Below w.heap.size w W
theorem LeAt.set {w W : World} {Z : Array Value} {G : Nat → Int} (h : LeAt w Z G W) (i : Nat) (x : Int) : LeAt w Z (updG G i x) (W.setCell ⟨w.heap.size + 1, i, none⟩ (.int .i64 x)) := by
  obtain ⟨A, hA⟩ := h.cfg
  refine ⟨⟨_, hA.cfg.set i x, heap_setCell_same _ _ _ _ _ _ hA.block⟩, ?_, h.bel.setCell (p := ⟨w.heap.size + 1, i, none⟩) (by show w.heap.size ≤ w.heap.size + 1; omega) _⟩
  rw [heap_setCell_other _ _ _ _ (by show w.heap.size ≠ w.heap.size + 1; omega)]
  exact h.res
theorem le_frame : ∀ q, q < 94 → updG (leG false) 18 4 q = leG true q := by
  have : (List.range 94).all (fun q => updG (leG false) 18 4 q == leG true q) = true := by decide +kernel
  intro q hq
  simpa using List.all_eq_true.1 this q (by simpa using hq)
theorem store_rowL {W : World} {b : Nat} {Z L : Array Value} {g : Nat → Int} (hW : W.heap[b]? = some (.cells Z 50 (0, 0))) (hz : Z.size = 94) (C : Cfg L g) :
    (storeVar 50 ⟨b, 0, none⟩ (.agg L)).run Tryd.prog W = .ok () (W.setRow b L) :=
  run_storeVar_row (P := Tryd.prog) W b 50 50 Z L hW (by rw [C.size]; kernel_rfl) (by rw [hz, C.size]) C.one
set_option maxRecDepth 100000 in
set_option maxHeartbeats 4000000 in
theorem least_any (w : World) :
    Calls Tryd.prog 30 #[] w fun e w' => ∃ A, e = .returned (.agg A) ∧ Cfg A (leG true) ∧ Below w.heap.size w w' := by
  obtain ⟨Z, hz, hZ⟩ := zeroCfg
  have hb := builtLeast
  have hL := cfg_ofG (leG false)
  generalize ofG (leG false) = L at hb hL
  have hS1 := store_last (w.alloc (.cells Z 50)) hz hL
  rw [show (w.alloc (.cells Z 50)).heap.size = w.heap.size + 1 by simp] at hS1
  have HT0 := Lib.hid (show LeAt w Z (leG false) ((w.alloc (.cells Z 50)).alloc (.cells L 50)) from
    ⟨⟨L, hL, heap_alloc2_new w _ _⟩, heap_alloc2_old w _ _, ((Below.refl _ _).alloc (Nat.le_refl _) _).alloc (by simp) _⟩)
  have HS1 := Lib.hid hS1
  have HB := Lib.hid hb
  have HZ := Lib.hid hz
  clear hz hS1 hL hb
  obtain ⟨A0, hA0⟩ := HT0.out.cfg
  have c1 := hA0.cell 18 (by decide)
  have f1 := frozen_of_row _ _ 18 _ _ hA0.block
  have HT1 := Lib.hid (HT0.out.set 18 4)
  clear hA0
  go_enter Tryd.func30, Tryd.ntmps30
  go_upto_region 3 with (first
    | (refine wpList_buildTo rfl 50 _ rfl (some 2) rfl L ?hb ?_; case hb => simpa [Act.eval] using HB.out)
    | (refine wpList_store_run rfl 50 _ _ rfl (w.heap.size + 1) L _ rfl rfl HS1.out ?_; generalize (w.alloc (.cells Z 50)).alloc (.cells L 50) = W0 at *))
  clear c1 f1 HT0 HS1 HB hZ
  generalize W0.setCell ⟨w.heap.size + 1, 18, none⟩ (.int .i64 4) = W1 at *
  have H1 := HT1.out
  obtain ⟨M, hM⟩ := H1.cfg
  have hM2 : CfgAt W1 (w.heap.size + 1) M (leG true) := ⟨hM.cfg.ext le_frame, hM.block⟩
  have HM := Lib.hid hM2
  have HI := Lib.hid (cfgInfo hM2.cfg)
  have HST := Lib.hid (store_rowL H1.res HZ.out hM2.cfg)
  have HR := Lib.hid (setRow_heap W1 w.heap.size Z M 50 (0, 0) H1.res)
  have HBE := Lib.hid (show Below w.heap.size w (W1.setRow w.heap.size M) from H1.bel.trans ⟨rfl, rfl, rfl, by simp, fun k hk => setRow_other _ _ _ _ (by omega)⟩)
  clear hM hM2 H1
  go_wp2_with (first
    | (refine wpList_load_row rfl 50 _ rfl (w.heap.size + 1) rfl 50 M (0, 0) _ HM.out.block Tryd.underlying50 rfl HI.out ?_)
    | (refine wpList_store_run rfl 50 _ _ rfl w.heap.size M _ rfl rfl HST.out ?_))
  refine bodyPost_ret (v := .agg M) ?_ rfl ⟨M, rfl, HM.out.cfg, ?_⟩
  · exact results_cell_row rfl _ _ _ _ _ (0, 0) _ rfl HR.out Tryd.underlying50 rfl HI.out
  · exact HBE.out
/-- A call in memory of its own. -/
def CopP (w : World) (q : CallM) (n : Nat) (x : Nat → UInt8) (e : Ending) (w' : World) : Prop := ∃ a c, e = .returned (.agg (q.cells a n c)) ∧ Src w' a n x ∧ Below w.heap.size w w'
set_option maxRecDepth 100000 in
set_option maxHeartbeats 4000000 in
theorem copied_any (q : CallM) (a : Option Addr) (n c : Nat) (x : Nat → UInt8) (hn : n ≤ 2000) (w : World) (S : Src w a n x) : Calls Tryd.prog 11 #[.agg (q.cells a n c)] w (CopP w q n x) := by
  obtain ⟨i0, hi, hz0, hz1, hz2⟩ := info_parts infoByte
  have HS := Lib.hid S
  have HB1 := Lib.hid (show Below w.heap.size w ((w.alloc (.cells (q.cells a n c) 29)).alloc (.cells zC 29)) from ((Below.refl _ _).alloc (Nat.le_refl _) _).alloc (by simp) _)
  have HK1 := Lib.hid (show ((w.alloc (.cells (q.cells a n c) 29)).alloc (.cells zC 29)).heap[w.heap.size]? = some (.cells (q.cells a n c) 29 (0, 0)) from heap_alloc2_old w _ _)
  have HR1 := Lib.hid (show ((w.alloc (.cells (q.cells a n c) 29)).alloc (.cells zC 29)).heap[w.heap.size + 1]? = some (.cells zC 29 (0, 0)) from heap_alloc2_new w _ _)
  clear S
  go_enter Tryd.func11, Tryd.ntmps11
  go_upto_region 1 with (fail)
  generalize (w.alloc (.cells (q.cells a n c) 29)).alloc (.cells zC 29) = w1 at *
  have HOW := Lib.hid (World.ownsRow_made w1 (e := 5) (base := w1.heap.size) (size := 1) #[] 0 (Nat.le_refl _) (Nat.zero_le _) (by simp))
  have hba : Below w1.heap.size w1 (w1.alloc (.cells #[] 5)) := (Below.refl _ _).alloc (Nat.le_refl _) _
  have hlt1 : w.heap.size + 1 < w1.heap.size := (Array.getElem?_eq_some_iff.1 HR1.out).1
  have HBA := Lib.hid hba
  have HSA := Lib.hid (HS.out.later (HB1.out.trans (hba.mono HB1.out.size)))
  have k11 : (w1.alloc (.cells #[] 5)).cell? ⟨w.heap.size, 11, none⟩ = some (.slice a n c) := by
    rw [hba.cell (p := ⟨w.heap.size, 11, none⟩) (by show w.heap.size < _; omega), cell_of_row _ _ _ _ _ _ HK1.out]
    rfl
  clear hba
  have KEY := Lib.hid (show ∀ (a8 : Option Addr) (c8 : Nat) (W5 : World), W5.ownsRow w1.heap.size 5 1 (.slice a8 n c8) n (bytL n x) → (w1.alloc (.cells #[] 5)).grownBy W5 (Value.slice (some ⟨w1.heap.size, 0, none⟩) 0 0).ownBlock →
      W5.cell? ⟨w.heap.size, 11, none⟩ = some (.slice a n c) ∧ W5.frozen? ⟨w.heap.size, 11, none⟩ = false ∧ Hid (BytAt w1.heap.size (lisX x n) (.slice a8 n c8) W5) ∧ Hid (Below w.heap.size w W5) ∧ Hid (W5.heap[w.heap.size]? = some (.cells (q.cells a n c) 29 (0, 0))) ∧ Hid (W5.heap[w.heap.size + 1]? = some (.cells zC 29 (0, 0))) from fun a8 c8 W5 hown5 hg5 => by
    have hb5 : Below w1.heap.size w1 W5 := (show Only (fun k => (Value.slice (some ⟨w1.heap.size, 0, none⟩) 0 0).ownBlock = some k) (w1.alloc (.cells #[] 5)) W5 from Only.of_grown hg5).below HBA.out HBA.out.size (fun k hk => (HOW.out.lt k hk).1)
    have hk5 : W5.heap[w.heap.size]? = some (.cells (q.cells a n c) 29 (0, 0)) := by rw [hb5.block _ (by omega)]; exact HK1.out
    have hr5 : W5.heap[w.heap.size + 1]? = some (.cells zC 29 (0, 0)) := by rw [hb5.block _ hlt1]; exact HR1.out
    have k5 : W5.cell? ⟨w.heap.size, 11, none⟩ = some (.slice a n c) := by rw [cell_of_row _ _ _ _ _ _ hk5]; rfl
    have f5 : W5.frozen? ⟨w.heap.size, 11, none⟩ = false := frozen_of_row _ _ 11 _ _ hk5
    refine ⟨k5, f5, Lib.hid ?_, Lib.hid (HB1.out.trans (hb5.mono HB1.out.size)), Lib.hid hk5, Lib.hid hr5⟩
    unfold BytAt
    rw [lisX_len, bvs_lisX]
    exact hown5)
  go_upto_region 2 with (first | (at_builtin; refine wpList_append_src _ rfl _ _ 27 rfl w1.heap.size 5 i0 _ 1 1 Tryd.underlying27 hi hz0 hz1 hz2 rfl (by decide) _ _ _ rfl HOW.out _ _ _ (bytL n x) rfl (by rw [bytL_len]; omega) HSA.out.cells (bytL_one _ _) (by unfold maxLen; omega) (by omega) HBA.out.size ?_; intro v5 W5 hown5 hg5 _; rw [Nat.zero_add, List.nil_append] at hown5; obtain ⟨a8, c8, e8, _⟩ := owns_slice hown5; subst e8; obtain ⟨k5, f5, HBT, HB5, HK5, HR5⟩ := KEY.out a8 c8 W5 hown5 hg5; clear hown5 hg5 k11) | fail)
  have hk6 : (W5.setCell ⟨w.heap.size, 11, none⟩ (.slice a8 n c8)).heap[w.heap.size]? = some (.cells (q.cells a8 n c8) 29 (0, 0)) := heap_setCell_same W5 w.heap.size 11 _ _ _ HK5.out
  have hr6 : (W5.setCell ⟨w.heap.size, 11, none⟩ (.slice a8 n c8)).heap[w.heap.size + 1]? = some (.cells zC 29 (0, 0)) := by
    rw [heap_setCell_other _ _ _ _ (by show w.heap.size + 1 ≠ w.heap.size; omega)]
    exact HR5.out
  have ho6 : Only (fun k => k = w.heap.size ∨ k = w.heap.size + 1) W5 (W5.setCell ⟨w.heap.size, 11, none⟩ (.slice a8 n c8)) := Only.setCell _ _ (.inl rfl) _
  have HK6 := Lib.hid hk6
  have HST := Lib.hid (run_storeVar_row (P := Tryd.prog) _ (w.heap.size + 1) 29 29 zC (q.cells a8 n c8) hr6 sizeCall rfl (by simp [Value.oneCell']))
  have HRR := Lib.hid (setRow_heap _ (w.heap.size + 1) zC (q.cells a8 n c8) 29 (0, 0) hr6)
  have ho7 := Lib.hid (ho6.trans (Only.setRow (S := fun k => k = w.heap.size ∨ k = w.heap.size + 1) _ (w.heap.size + 1) (.inr rfl) (q.cells a8 n c8)))
  clear hk6 hr6 ho6 k5 f5
  go_wp2_with (first
    | (refine wpList_load_call rfl _ rfl w.heap.size rfl HK6.out ?_)
    | (refine wpList_store_run rfl 29 _ _ rfl (w.heap.size + 1) (q.cells a8 n c8) _ rfl rfl HST.out ?_))
  refine bodyPost_ret (v := .agg (q.cells a8 n c8)) ?_ rfl ⟨a8, c8, rfl, ?_, ?_⟩
  · exact results_cell_row rfl _ _ _ _ _ (0, 0) _ rfl HRR.out Tryd.underlying29 rfl sizeCall
  · exact src_byt (HBT.out.only ho7.out (fun k hk h => by have := (HBT.out.lt k hk).1; omega))
  · exact ho7.out.below HB5.out HB5.out.size (fun k hk => by omega)
end
/-! calls' laws: known. -/
section
open Go.RowKit Go
attribute [local go_sem] Oper.semAt_some

/-- An exit of 3; loads of 8 at 250 and at 248. -/
def qE : CallM := ⟨2, 3, 0, 0, 0, 0, 0, 0, 0, 0, 0⟩
def qL (z : Int) : CallM := ⟨8, 1, 0, 0, 0, z, 8, 0, 0, 0, 0⟩
theorem qE_in : CsIn qE 0 := ⟨⟨by decide, by decide, by decide, by decide, by decide⟩, by decide, by decide, by decide, by decide, by decide, by decide, by decide⟩
theorem qL_in1 : CsIn (qL 250) 0 := ⟨⟨by decide, by decide, by decide, by decide, by decide⟩, by decide, by decide, by decide, by decide, by decide, by decide, by decide⟩
theorem qL_in2 : CsIn (qL 248) 0 := ⟨⟨by decide, by decide, by decide, by decide, by decide⟩, by decide, by decide, by decide, by decide, by decide, by decide, by decide⟩
theorem qE_may : mayC qE 0 = true := by decide +kernel
theorem qL_bad1 : wrongC (leG true) (qL 250) 0 = true := by decide +kernel
theorem qL_bad2 : wrongC (leG true) (qL 248) 0 = false := by decide +kernel
theorem qE_form : callL qE (fun _ => 0) 0 = [2, 0, 0, 0, 0, 0, 0, 0, 3, 0, 0, 0, 0, 0, 0, 0] := by decide +kernel
theorem qE_str : strL [2, 0, 0, 0, 0, 0, 0, 0, 3, 0, 0, 0, 0, 0, 0, 0] = { data := #[2, 0, 0, 0, 0, 0, 0, 0, 3, 0, 0, 0, 0, 0, 0, 0] } := by kernel_rfl
section
variable {P : World → Prop} (ok : CsOk P)
include ok
set_option maxRecDepth 100000 in
set_option maxHeartbeats 8000000 in
theorem cknown_any (w : World) (hP : P w) : Calls Tryd.prog 10 #[] w fun e w' => e = .returned (.bool true) ∧ Below w.heap.size w w' := by
  have HP := Lib.hid hP
  clear hP
  have hlen := congrArg List.length qE_form
  go_enter Tryd.func10, Tryd.ntmps10
  go_wp2_with (fail)
  refine (ok.bytes (q := qE) (a := none) (n := 0) (c := 0) (x := fun _ => 0) (w := w) HP.out qE_in (Src.nil _ _ _)).mono ?_
  rintro e w1 (⟨-, v, rfl, hby, hb1⟩ | ⟨h, _⟩)
  · obtain ⟨gb, cap, rfl, hcl, hcm, hbg, hs⟩ := byt_slice hby (by rw [hlen]; decide)
    have HR := Lib.hid (fun W (hPW : P W) (hs : Src W (some ⟨gb, 0, none⟩) (callL qE (fun _ => 0) 0).length (fun i => (callL qE (fun _ => 0) 0).getD i 0)) => (ok.read (c := cap) (hPW) (by rw [hlen]; decide) hcl hcm hs))
    have HB1 := Lib.hid hb1
    have HS1 := Lib.hid hs
    have HY1 := Lib.hid hby
    clear hb1 hs hby hcl
    go_wp2_with (fail)
    refine (HR.out _ (ok.later HP.out HB1.out) HS1.out).mono ?_
    intro e w2 hrd
    obtain ⟨a2, c2, rfl, hs2, hb2⟩ := rdP_back qE_in.ok qE_may hrd
    have HB2 := Lib.hid (HB1.out.trans (hb2.mono HB1.out.size))
    have HY2 := Lib.hid (HY1.out.later hb2)
    clear hrd hs2 hb2 HY1 HB1 HS1 HR
    go_upto_region 3 with (fail)
    have hba : Below w2.heap.size w2 (w2.alloc (.cells (qE.cells a2 0 c2) 29)) := (Below.refl _ _).alloc (Nat.le_refl _) _
    have kp : (w2.alloc (.cells (qE.cells a2 0 c2) 29)).cell? ⟨w2.heap.size, 1, none⟩ = some (.int .i64 3) := by
      rw [cell_of_row _ _ _ _ _ _ (heap_alloc_new w2 _)]
      rfl
    have HB3 := Lib.hid (HB2.out.trans (hba.mono HB2.out.size))
    have HY3 := HY2.out.later hba
    rw [qE_form] at HY3
    have hcv : (convert 27 9 (.slice (some ⟨gb, 0, none⟩) 16 cap)).run Tryd.prog (w2.alloc (.cells (qE.cells a2 0 c2) 29)) = .ok (.string { data := #[2, 0, 0, 0, 0, 0, 0, 0, 3, 0, 0, 0, 0, 0, 0, 0] }) (w2.alloc (.cells (qE.cells a2 0 c2) 29)) := by
      have h := str_byt HY3
      rw [qE_str] at h
      exact h
    clear hba HY2 HY3 HB2 hlen
    generalize w2.alloc (.cells (qE.cells a2 0 c2) 29) = w3 at *
    go_wp2_with (fail)
    refine (least_any _).mono ?_
    rintro e w4 ⟨A1, rfl, hA1, hb4⟩
    have HA1 := Lib.hid hA1
    have HB4 := Lib.hid (HB3.out.trans (hb4.mono HB3.out.size))
    clear hA1 hb4 hcv kp HB3
    go_wp2_with (fail)
    refine (ok.wrong (q := qL 250) (a := none) (n := 0) (c := 0) (x := fun _ => 0) (w := w4) (ok.later HP.out HB4.out) HA1.out qL_in1 (Src.nil _ _ _)).mono ?_
    rintro e w5 ⟨rfl, hb5⟩
    rw [qL_bad1]
    have HB5 := Lib.hid (HB4.out.trans (hb5.mono HB4.out.size))
    clear hb5 HB4 HA1
    go_wp2_with (fail)
    refine (least_any _).mono ?_
    rintro e w6 ⟨A2, rfl, hA2, hb6⟩
    have HA2 := Lib.hid hA2
    have HB6 := Lib.hid (HB5.out.trans (hb6.mono HB5.out.size))
    clear hA2 hb6 HB5
    go_wp2_with (fail)
    refine (ok.wrong (q := qL 248) (a := none) (n := 0) (c := 0) (x := fun _ => 0) (w := w6) (ok.later HP.out HB6.out) HA2.out qL_in2 (Src.nil _ _ _)).mono ?_
    rintro e w7 ⟨rfl, hb7⟩
    rw [qL_bad2]
    have HB7 := Lib.hid (HB6.out.trans (hb7.mono HB6.out.size))
    clear hb7 HB6 HA2
    go_wp2_with (fail)
    go_ret
    exact ⟨rfl, HB7.out⟩
  · rw [qE_may] at h; cases h
end
end
/-! calls, the document's Wrong: the boxes, and what is refused at once. -/
section
open Go.RowKit Go
attribute [local go_sem] Oper.semAt_some

/-- The config's and the call's boxes. -/
structure WrB (w : World) (A : Array Value) (g : Nat → Int) (q : CallM) (a : Option Addr) (n c : Nat) (W : World) : Prop where
  cfg : CfgAt W w.heap.size A g
  blk : W.heap[w.heap.size + 1]? = some (.cells (q.cells a n c) 29 (0, 0))
  bel : Below w.heap.size w W
theorem WrB.later {w W W' : World} {A : Array Value} {g : Nat → Int} {q : CallM} {a : Option Addr} {n c : Nat} (h : WrB w A g q a n c W) (hb : Below W.heap.size W W') : WrB w A g q a n c W' :=
  ⟨h.cfg.later hb, by rw [hb.block _ (Array.getElem?_eq_some_iff.1 h.blk).1]; exact h.blk, h.bel.trans (hb.mono h.bel.size)⟩
theorem WrB.cell {w W : World} {A : Array Value} {g : Nat → Int} {q : CallM} {a : Option Addr} {n c : Nat} (h : WrB w A g q a n c W) (i : Nat) (v : Value) (hv : (q.cells a n c)[i]? = some v) : W.cell? ⟨w.heap.size + 1, i, none⟩ = some v := by
  rw [cell_of_row _ _ _ _ _ _ h.blk]
  exact hv
theorem wrb_new (w : World) {A : Array Value} {g : Nat → Int} (hA : Cfg A g) (q : CallM) (a : Option Addr) (n c : Nat) : WrB w A g q a n c ((w.alloc (.cells A 50)).alloc (.cells (q.cells a n c) 29)) :=
  ⟨(CfgAt.new w hA).later ((Below.refl _ _).alloc (Nat.le_refl _) _), heap_alloc2_new w _ _, ((Below.refl _ _).alloc (Nat.le_refl _) _).alloc (by simp) _⟩
theorem wrongC_bad {g : Nat → Int} {q : CallM} {n : Nat} (hg : mayB g = true) (hm : mayC q n = true) : wrongC g q n = badC g q n := by
  unfold wrongC
  rw [hg, hm]
  rfl
theorem few_no {q : CallM} {n : Nat} (h : fewC q n = false) : 1 ≤ sizeC q n ∧ sizeC q n ≤ 8 := by
  unfold fewC at h
  have := of_decide_eq_false h
  omega
end
end Go.Proofs.YtkmjkkeldbocdaaDoor
