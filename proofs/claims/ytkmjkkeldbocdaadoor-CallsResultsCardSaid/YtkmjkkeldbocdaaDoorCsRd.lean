/-
  calls, the document's: bytes read as a call.
-/
import Derived.Test.YtkmjkkeldbocdaaDoorCsMay
import Derived.Test.YtkmjkkeldbocdaaDoorCsRr
namespace Go.Proofs.YtkmjkkeldbocdaaDoor
open Go.RowKit Go
attribute [local go_sem] Oper.semAt_some

/-- A call of a kind, without fields. -/
def q0 (k : Nat) : CallM := ⟨k, 0, 0, 0, 0, 0, 0, 0, 0, 0, 0⟩
theorem listN_q0 (k : Nat) : listN (q0 k) = List.replicate (lenK k) 0 := by
  unfold listN q0 lenK
  dsimp only
  split <;> first | rfl | (split <;> first | rfl | (exfalso; simp_all))
/-- The numbers that are read, the first i of them. -/
def rdL (x : Nat → UInt8) (n len i : Nat) : List Nat := (List.range len).map fun j => if j < i then numX x n (8 + 8 * j) else 0
theorem rdL_len (x : Nat → UInt8) (n len i : Nat) : (rdL x n len i).length = len := by simp [rdL]
theorem rdL_at (x : Nat → UInt8) (n i : Nat) {len j : Nat} (h : j < len) : (rdL x n len i).getD j 0 = if j < i then numX x n (8 + 8 * j) else 0 := by
  unfold rdL
  rw [List.getD_eq_getElem?_getD, List.getElem?_map, List.getElem?_range h]
  rfl
theorem rdL_zero (x : Nat → UInt8) (n len : Nat) : rdL x n len 0 = List.replicate len 0 := by
  refine List.ext_getElem (by simp [rdL]) fun j h1 h2 => ?_
  simp [rdL]
theorem rdL_lt (x : Nat → UInt8) (n len i j : Nat) : (rdL x n len i).getD j 0 < 18446744073709551616 := by
  by_cases h : j < len
  · rw [rdL_at x n i h]
    split
    · exact numX_lt x n _
    · decide
  · rw [List.getD_eq_getElem?_getD, List.getElem?_eq_none (by rw [rdL_len]; omega)]
    decide
theorem ofN_kind (k : Nat) (g : Nat → Nat) : (ofN k g).kind = k := by
  unfold ofN
  split <;> rfl
theorem ofN_ok {k : Nat} {g : Nat → Nat} (hk : k ≤ 255) (hg : ∀ i, g i < 18446744073709551616) : (ofN k g).Ok := by
  have h0 := hg 0
  unfold ofN
  split <;> exact ⟨by first | exact hk | (dsimp only; omega), by dsimp only; omega, by dsimp only; omega, by dsimp only; omega, by dsimp only; omega⟩
theorem hasK_len {k : Nat} (h : hasK k = true) : lenK k = 2 := by
  unfold hasK at h
  rcases of_decide_eq_true h with rfl | rfl <;> rfl
/-- Behind the numbers. -/
def atK (k : Nat) : Nat := 8 + 8 * lenK k
def hasT (k n : Nat) : Bool := hasK k && decide (atK k + 8 ≤ n)
def mT (k n : Nat) : Nat := if hasT k n then n - (atK k + 8) else 0
def qX (x : Nat → UInt8) (n k : Nat) : CallM := ofN k fun i => (rdL x n (lenK k) (lenK k)).getD i 0
def okC (x : Nat → UInt8) (n : Nat) : Bool := decide (numX x n 0 ≤ 255) && (okK (numX x n 0) && (mayC (qX x n (numX x n 0)) (mT (numX x n 0) n) && ((strL (callL (qX x n (numX x n 0)) (shX x (atK (numX x n 0) + 8)) (mT (numX x n 0) n))).toList == (strB n x).toList)))
def RdP (w : World) (n : Nat) (x : Nat → UInt8) (e : Ending) (w' : World) : Prop :=
  (okC x n = true ∧ ∃ a c, e = .returned (.tuple #[.agg ((qX x n (numX x n 0)).cells a (mT (numX x n 0) n) c), .int .i64 0]) ∧ Src w' a (mT (numX x n 0) n) (shX x (atK (numX x n 0) + 8)) ∧ Below w.heap.size w w') ∨
  (okC x n = false ∧ e = .returned (.tuple #[.agg ((q0 0).cells none 0 0), .int .i64 5]) ∧ Below w.heap.size w w')
/-- A number is laid in its place. -/
theorem NumAt.put {b : Nat} {x : Nat → UInt8} {n len i : Nat} {W : World} (h : RowAt W b len (fun j => .int .u64 (((rdL x n len i).getD j 0 : Nat) : Int))) (hi : i < len) :
    RowAt (W.setCell ⟨b, i, none⟩ (.int .u64 ((numX x n (8 + 8 * i) : Nat) : Int))) b len (fun j => .int .u64 (((rdL x n len (i + 1)).getD j 0 : Nat) : Int)) :=
  (h.setCell i _).ext (fun j hj => by
    unfold updV
    dsimp only
    rw [rdL_at x n i hj, rdL_at x n (i + 1) hj]
    by_cases e : j = i
    · subst e; rw [if_pos rfl, if_pos (by omega)]
    · rw [if_neg e]
      by_cases h2 : j < i
      · rw [if_pos h2, if_pos (by omega)]
      · rw [if_neg h2, if_neg (by omega)])
theorem wpList_sliceM {P : Program} {w : World} {ops : Array Oper} {rest : List Oper} {o : Oper} {a : Act} {Q : Exit → Act → World → Prop} (hg : o.guard = none) (t : TypeId) (x : Operand) (lo hh mx : Option Operand) (hop : o.op = .slice t x lo hh mx) {v : Value}
    (hr : (Instr.sliceAt t (a.eval x) (lo.map a.eval) (hh.map a.eval) (mx.map a.eval)).run P w = .ok v w) (hK : wpList P ops Q rest (a.put o.dst v) w) : wpList P ops Q (o :: rest) a w := by
  refine wpList_plain hg fun K' hK' => ?_
  unfold Oper.wp
  simp [execOp, hop, hr, Result.andThen]
  exact hK' _ _ hK
theorem Src.tailK {w : World} {g o n c : Nat} {x : Nat → UInt8} (S : Src w (some ⟨g, o, none⟩) n x) (k : Nat) (hnc : n ≤ c) : Src w (some (if c = k then (⟨g, o, none⟩ : Addr) else ⟨g, o + k * 1, none⟩)) (n - k) (shX x k) := by
  by_cases h : c = k
  · intro h0; omega
  · rw [if_neg h, Nat.mul_one]
    exact S.from k
theorem results_cs0 {fn : Func} {p s : Tmp} {ty : TypeId} {tmps : Array Value} {P : Program} {w : World} (h : fn.results = #[.cell p ty, .tmp s]) :
    (results fn tmps).run P w = ((asAddr (tmps.getD p undef)).run P w).andThen fun a w₁ => ((loadVar ty a).run P w₁).andThen fun v w₂ => .ok (.tuple #[v, tmps.getD s undef]) w₂ := by
  simp only [results, h]
  simp [Sem.run_bind, Result.andThen]
theorem results_cs {fn : Func} {p s : Tmp} {ty : TypeId} {tmps : Array Value} {P : Program} {w : World} {v u : Value} {ad : Addr} (h : fn.results = #[.cell p ty, .tmp s]) (hp : tmps.getD p undef = .pointer (some ad)) (hs : tmps.getD s undef = u) (hl : (loadVar ty ad).run P w = .ok v w) :
    (results fn tmps).run P w = .ok (.tuple #[v, u]) w := by
  rw [results_cs0 h, hp, hs]
  simp [asAddr, Result.andThen, hl]
/-- The zero call, told with ErrForm. -/
structure ErrAt (w : World) (W : World) : Prop where
  row : RowAt W w.heap.size 12 (cellC ((q0 0).list none 0 0))
  bel : Below w.heap.size w W
abbrev zC : Array Value := #[.int .u8 0, .int .i64 0, .int .i64 0, .int .i64 0, .int .i64 0, .int .i64 0, .int .i64 0, .int .u8 0, .int .u8 0, .int .u8 0, .int .u64 0, .slice none 0 0]
theorem ErrAt.lay {w W : World} (h : ErrAt w W) : ErrAt w (W.setCells w.heap.size 0 zC.toList) := by
  have ho := Only.setCells (S := fun k => k = w.heap.size) (b := w.heap.size) rfl zC.toList 0 W
  exact ⟨row_lay h.row (q0 0) none 0 0, ho.below h.bel h.bel.size (fun k hk => by omega)⟩
theorem sizeZ : (Tryd.prog.info? 29).map (·.size) = some zC.size := sizeCall
theorem oneZ : zC.all (·.oneCell') = true := by simp [Value.oneCell']
set_option maxRecDepth 100000 in
set_option maxHeartbeats 8000000 in
theorem read_ok (g o n c : Nat) (x : Nat → UInt8) (hn : n ≤ 2030) (w : World) (S : Src w (some ⟨g, o, none⟩) n x) (hnc : n ≤ c) : Calls Tryd.prog 19 #[.slice (some ⟨g, o, none⟩) n c] w (RdP w n x) := by
  obtain ⟨i0, hi, hz0, hz1, hz2⟩ := info_parts infoByte
  have HNX := Lib.hid (fun p W (hp : p ≤ 100000) (h : Src W (some ⟨g, o, none⟩) n x) => number_any (c := c) h (show n ≤ 100000 by omega) p hp)
  have HS := Lib.hid S
  obtain ⟨w2, hw2⟩ : ∃ w2, w2 = w.alloc (.cells #[.int .u8 0, .int .i64 0, .int .i64 0, .int .i64 0, .int .i64 0, .int .i64 0, .int .i64 0, .int .u8 0, .int .u8 0, .int .u8 0, .int .u64 0, .slice none 0 0] 29) := ⟨_, rfl⟩
  have HB2 := Lib.hid (show Below w.heap.size w w2 from by rw [hw2]; exact (Below.refl _ _).alloc (Nat.le_refl _) _)
  have HS2 := Lib.hid (HS.out.later HB2.out)
  have HR2 := Lib.hid (show RowAt w2 w.heap.size 12 (cellC ((q0 0).list none 0 0)) from by rw [hw2]; exact row_list w (q0 0) none 0 0 _)
  have hsz2 : w2.heap.size = w.heap.size + 1 := by rw [hw2]; simp
  have HSZ := Lib.hid hsz2
  have hnI : (n : Int) ≤ 2030 := by omega
  have hkl := numX_lt x n 0
  clear S hsz2
  obtain ⟨R, hR⟩ : ∃ R, RdP w n x = R := ⟨_, rfl⟩
  rw [hR]
  have HRP := Lib.hid hR
  clear hR
  by_cases h9 : numX x n 0 ≤ 255
  · have h9I : ¬ (255 : Int) < (numX x n 0 : Nat) := by omega
    have HNU := Lib.hid (HNX.out 0 w2 (by decide) HS2.out)
    have hcv : IntKind.u8.wrap ((numX x n 0 : Nat) : Int) = (numX x n 0 : Nat) := by rw [IntKind.wrap_u8']; omega
    obtain ⟨k, hk⟩ : ∃ k, numX x n 0 = k := ⟨_, rfl⟩
    rw [hk] at h9I h9 hcv HNU hkl
    have HK := Lib.hid hk
    have HLI := Lib.hid (fun W => list_any (q0 k) (Nat.zero_le _) (Nat.zero_le _) (Nat.zero_le _) none 0 0 W)
    clear hk
    go_enter Tryd.func19, Tryd.ntmps19
    go_wp2_with (fail)
    rw [← hw2]
    refine HNU.out.mono ?_
    rintro e w' ⟨rfl, rfl⟩
    clear hw2
    go_wp2_with (fail)
    refine (HLI.out _).mono ?_
    rintro e w3 ⟨vl, rfl, hNum, hb3⟩
    rw [listN_q0, ← rdL_zero x n] at hNum
    simp only [show (q0 k).kind = k from rfl]
    have HNM := Lib.hid hNum
    have HB3 := Lib.hid (HB2.out.trans (hb3.mono HB2.out.size))
    have HR3 := Lib.hid (HR2.out.later hb3)
    clear hNum hb3 HLI HNU HR2
    cases hok : okK k with
    | false =>
      have HOKX := Lib.hid (show okC x n = false by unfold okC; rw [HK.out, hok]; simp)
      clear hok hcv
      have HE := Lib.hid (ErrAt.mk (w := w) HR3.out HB3.out)
      have hth : w3.there w.heap.size 0 zC.size := HR3.out.there 0 12 (by decide)
      have hsz := sizeZ
      have hoz := oneZ
      go_wp2_with (first | (refine wpList_store_mid rfl 29 _ _ rfl w.heap.size 0 zC rfl rfl hth hsz hoz ?_) | fail)
      have HE2 := Lib.hid HE.out.lay
      refine bodyPost_ret (v := .tuple #[.agg ((q0 0).cells none 0 0), .int .i64 5]) ?_ rfl (by rw [← HRP.out]; exact .inr ⟨HOKX.out, rfl, HE2.out.bel⟩)
      exact results_cs rfl rfl rfl (load_call HE2.out.row rfl)
    | true =>
      have HOK := Lib.hid hok
      obtain ⟨len, hlen⟩ : ∃ len, lenK k = len := ⟨_, rfl⟩
      have HLN := Lib.hid hlen
      have hl5 : len ≤ 5 := by rw [← hlen]; exact lenK_le k
      rw [hlen] at HNM
      obtain ⟨va, vc, hv, hnum⟩ := HNM.out
      rw [rdL_len] at hv hnum
      subst hv
      have HNU := Lib.hid hnum
      clear hok hlen hnum HNM
      go_wp2_with (fail)
      go_loopw [8, 9] (fun atv iv wr => ∃ i : Nat, iv = .int .i64 i ∧ atv = .int .i64 ((8 + 8 * i : Nat) : Int) ∧ i ≤ len ∧ Hid (0 < len → ∃ b, va = some ⟨b, 0, none⟩ ∧ w2.heap.size ≤ b ∧ RowAt wr b len (fun j => .int .u64 (((rdL x n len i).getD j 0 : Nat) : Int))) ∧ Hid (RowAt wr w.heap.size 12 (cellC ((q0 0).list none 0 0))) ∧ Hid (Below w.heap.size w wr)) (fun _ iv _ => len - (intOf iv).toNat)
      case atStart => exact ⟨0, rfl, rfl, Nat.zero_le _, HNU, HR3, HB3⟩
      case round =>
        clear HNU HR3 HB3
        obtain ⟨i, rfl, rfl, hi2, HNU, HR4, HB4⟩ := hrel
        by_cases hlt : i < len
        · have hltI : (i : Int) < (len : Int) := by omega
          obtain ⟨b, rfl, hbb, hrow⟩ := HNU.out (by omega)
          have hc := hrow.cell i hlt
          have hf := hrow.frozen i
          have HC := Lib.hid (HNX.out (8 + 8 * i) wr (by omega) (HS.out.later HB4.out))
          have HROW := Lib.hid hrow
          clear hrow
          go_wp2_with (fail)
          refine HC.out.mono ?_
          rintro e w' ⟨rfl, rfl⟩
          go_wp2_with (fail)
          have ho := Only.setCell (S := fun k => k = b) wr ⟨b, i, none⟩ rfl (.int .u64 ((numX x n (8 + 8 * i) : Nat) : Int))
          have hbz := HSZ.out
          have HR5 := Lib.hid (HR4.out.only ho (by omega))
          have HB5 := Lib.hid (ho.below HB4.out HB4.out.size (fun k hk => by omega))
          have HN5 := Lib.hid (show 0 < len → ∃ b2, some (⟨b, 0, none⟩ : Addr) = some ⟨b2, 0, none⟩ ∧ w2.heap.size ≤ b2 ∧ RowAt (wr.setCell ⟨b, i, none⟩ (.int .u64 ((numX x n (8 + 8 * i) : Nat) : Int))) b2 len (fun j => .int .u64 (((rdL x n len (i + 1)).getD j 0 : Nat) : Int)) from fun _ => ⟨b, rfl, hbb, NumAt.put HROW.out hlt⟩)
          clear ho hbz HR4 HB4 HNU HC
          go_roundw
          case rel => exact ⟨i + 1, by go_num, by go_num, hlt, HN5, HR5, HB5⟩
          case measure => simp [intOf]; omega
        · obtain rfl : i = len := by omega
          have HKT := Lib.hid (show hasT k n = (hasK k && decide (8 + 8 * i + 8 ≤ n)) from by unfold hasT atK; rw [HLN.out])
          have HMT := Lib.hid (show mT k n = if hasT k n then n - (8 + 8 * i + 8) else 0 from by unfold mT atK; rw [HLN.out])
          have HNM := Lib.hid (show NumAt w2.heap.size (rdL x n i i) (.slice va i vc) wr from ⟨va, vc, by rw [rdL_len], by rw [rdL_len]; exact HNU.out⟩)
          have HQE := Lib.hid (show qX x n k = ofN k (fun j => (rdL x n i i).getD j 0) from by unfold qX; rw [HLN.out])
          have HQO := Lib.hid (show (ofN k (fun j => (rdL x n i i).getD j 0)).Ok from ofN_ok h9 (rdL_lt x n i i))
          cases hkk : hasK k with
          | false =>
            have HM0 := Lib.hid (show mT k n = 0 from by rw [HMT.out, HKT.out, hkk]; rfl)
            have HSR := Lib.hid (show Src wr none 0 (shX x (8 + 8 * i + 8)) from fun h => absurd h (by decide))
            clear HNU
            go_wp2_with (fail)
            refine (of_any HOK.out HNM.out (by rw [rdL_len, HLN.out]) none 0 0).mono ?_
            rintro e W6 ⟨rfl, hb6⟩
            have HB6 := Lib.hid (HB4.out.trans (hb6.mono HB4.out.size))
            have HR6 := Lib.hid (HR4.out.later hb6)
            have HS6 := Lib.hid (HSR.out.later hb6)
            clear hb6 HB4 HR4 HSR HNM
            generalize hq : ofN k (fun j => (rdL x n i i).getD j 0) = q at *
            have HSK := Lib.hid (show ∀ (V2 V : World), Only (fun k => k = w.heap.size) V2 V → Below W6.heap.size W6 V2 → Src V none 0 (shX x (8 + 8 * i + 8)) from fun _ _ _ _ h => absurd h (by decide))
            obtain ⟨W7, hW7⟩ : ∃ W7, W7 = W6.alloc (.cells #[.int .u8 (q.kind : Int), .int .i64 q.pid, .int .i64 q.node, .int .i64 q.page, .int .i64 q.count, .int .i64 q.addr, .int .i64 q.size, .int .u8 (q.rights : Int), .int .u8 (q.pk : Int), .int .u8 (q.pm : Int), .int .u64 (q.handle : Int), .slice none 0 0] 29) := ⟨_, rfl⟩
            have hb7 : Below W6.heap.size W6 W7 := by rw [hW7]; exact (Below.refl _ _).alloc (Nat.le_refl _) _
            have HX7 := Lib.hid (show RowAt W7 W6.heap.size 12 (cellC (q.list none 0 0)) from by rw [hW7]; exact row_list W6 q none 0 0 _)
            have HB7 := Lib.hid (HB6.out.trans (hb7.mono HB6.out.size))
            have HR7 := Lib.hid (HR6.out.later hb7)
            have HS7 := Lib.hid (HS6.out.later hb7)
            have HOKE := Lib.hid (show okC x n = (mayC q 0 && ((strL (callL q (shX x (8 + 8 * i + 8)) 0)).toList == (strB n x).toList)) from by
              unfold okC
              rw [HK.out, decide_eq_true h9, HOK.out, HQE.out, HM0.out, show atK k + 8 = 8 + 8 * i + 8 by unfold atK; rw [HLN.out]]
              rfl)
            have LQ := Lib.hid (show ∀ V, Kept W7.heap.size W7 V → (loadVar 29 ⟨W6.heap.size, 0, none⟩).run Tryd.prog V = .ok (.agg (q.cells none 0 0)) V from fun V hV => load_call (HX7.out.later hV.below) rfl)
            have LX := Lib.hid (show ∀ V, Kept W7.heap.size W7 V → (convert 27 9 (.slice (some ⟨g, o, none⟩) n c)).run Tryd.prog V = .ok (.string (strB n x)) V from fun V hV => run_string_src (HS.out.later (HB7.out.trans (hV.below.mono HB7.out.size))))
            have HMY := Lib.hid (fun V hV => cmay_any q HQO.out none 0 0 (shX x (8 + 8 * i + 8)) (by omega) V hV)
            have HBY := Lib.hid (fun V hV => rbytes_any q HQO.out none 0 0 (shX x (8 + 8 * i + 8)) (by omega) V hV)
            have B67 := Lib.hid hb7
            clear hb7
            go_wp2_with (fail)
            rw [← hW7]
            clear hW7
            refine wp_region_lex (Kept W7.heap.size W7) [(0, false), (1, true), (2, false), (3, false), (4, false), (7, false), (8, false), (5, true), (6, true), (9, false), (10, false)] (by kernel_rfl) (by kernel_rfl) rfl (by kernel_rfl) (Below.refl _ W7).drew ?_
            intro V0 hK0
            have HK0 := Lib.hid (show Below W7.heap.size W7 V0 from hK0)
            clear hK0
            refine lexH_load rfl rfl _ _ rfl rfl LQ.out ?_
            simp only [List.getElem_toArray, List.getElem_cons_zero, Act.put, List.setIfInBounds_toArray, List.set_cons_zero, List.set_cons_succ]
            refine lexH_call 14 #[.agg (q.cells none 0 0)] rfl rfl ?_ ?_
            focus (go_simp; done)
            refine (HMY.out _ (HS7.out.later HK0.out)).mono ?_
            rintro e V1 ⟨rfl, hb1⟩
            have HK1 := Lib.hid (HK0.out.trans (hb1.mono HK0.out.size))
            clear hb1
            refine ⟨_, rfl, HK1.out, ?_⟩
            simp only [List.getElem_toArray, List.getElem_cons_succ, List.getElem_cons_zero, Act.put, List.setIfInBounds_toArray, List.set_cons_zero, List.set_cons_succ]
            refine lexH_yieldE rfl rfl ?_
            apply Exists.intro
            refine ⟨fun W hW => ?_, ?_⟩
            focus (go_simp; exact rfl)
            simp only [List.getElem_toArray, List.getElem_cons_succ, List.getElem_cons_zero, Act.put, List.setIfInBounds_toArray, List.set_cons_zero, List.set_cons_succ]
            refine lexH_yieldE rfl rfl ?_
            apply Exists.intro
            refine ⟨fun W hW => ?_, ?_⟩
            focus (go_simp; exact rfl)
            simp only [List.getElem_toArray, List.getElem_cons_succ, List.getElem_cons_zero, Act.put, List.setIfInBounds_toArray, List.set_cons_zero, List.set_cons_succ]
            cases hmay : mayC q 0 with
            | false =>
              have HOKX := Lib.hid (show okC x n = false by rw [HOKE.out, hmay]; rfl)
              refine lexH_skip rfl rfl ?_
              simp only [List.getElem_toArray, List.getElem_cons_succ, List.getElem_cons_zero, Act.put, List.setIfInBounds_toArray, List.set_cons_zero, List.set_cons_succ]
              refine lexH_skip rfl rfl ?_
              simp only [List.getElem_toArray, List.getElem_cons_succ, List.getElem_cons_zero, Act.put, List.setIfInBounds_toArray, List.set_cons_zero, List.set_cons_succ]
              refine lexH_skip rfl rfl ?_
              simp only [List.getElem_toArray, List.getElem_cons_succ, List.getElem_cons_zero, Act.put, List.setIfInBounds_toArray, List.set_cons_zero, List.set_cons_succ]
              refine lexH_pass rfl rfl HK1.out ?_
              simp only [List.getElem_toArray, List.getElem_cons_succ, List.getElem_cons_zero, Act.put, List.setIfInBounds_toArray, List.set_cons_zero, List.set_cons_succ]
              refine lexH_pass rfl rfl HK1.out ?_
              simp only [List.getElem_toArray, List.getElem_cons_succ, List.getElem_cons_zero, Act.put, List.setIfInBounds_toArray, List.set_cons_zero, List.set_cons_succ]
              refine lexH_skip rfl rfl ?_
              simp only [List.getElem_toArray, List.getElem_cons_succ, List.getElem_cons_zero, Act.put, List.setIfInBounds_toArray, List.set_cons_zero, List.set_cons_succ]
              refine lexH_yieldE rfl rfl ?_
              apply Exists.intro
              refine ⟨fun W hW => ?_, ?_⟩
              focus (go_simp; exact rfl)
              simp only [List.getElem_toArray, List.getElem_cons_succ, List.getElem_cons_zero, Act.put, List.setIfInBounds_toArray, List.set_cons_zero, List.set_cons_succ]
              refine lexH_nil ?_
              have HE := Lib.hid (ErrAt.mk (w := w) (HR7.out.later HK1.out) (HB7.out.trans (HK1.out.mono HB7.out.size)))
              have hth : V1.there w.heap.size 0 zC.size := HE.out.row.there 0 12 (by decide)
              have hsz := sizeZ
              have hoz := oneZ
              go_wp2_with (first | (refine wpList_store_mid rfl 29 _ _ rfl w.heap.size 0 zC rfl rfl hth hsz hoz ?_) | fail)
              have HE2 := Lib.hid HE.out.lay
              refine bodyPost_ret (v := .tuple #[.agg ((q0 0).cells none 0 0), .int .i64 5]) ?_ rfl (by rw [← HRP.out]; exact .inr ⟨HOKX.out, rfl, HE2.out.bel⟩)
              exact results_cs rfl rfl rfl (load_call HE2.out.row rfl)
            | true =>
              refine lexH_load rfl rfl _ _ rfl rfl LQ.out ?_
              simp only [List.getElem_toArray, List.getElem_cons_succ, List.getElem_cons_zero, Act.put, List.setIfInBounds_toArray, List.set_cons_zero, List.set_cons_succ]
              refine lexH_yieldE rfl rfl ?_
              apply Exists.intro
              refine ⟨fun W hW => ?_, ?_⟩
              focus (go_simp; exact rfl)
              simp only [List.getElem_toArray, List.getElem_cons_succ, List.getElem_cons_zero, Act.put, List.setIfInBounds_toArray, List.set_cons_zero, List.set_cons_succ]
              refine lexH_conv rfl rfl _ _ _ rfl rfl LX.out ?_
              simp only [List.getElem_toArray, List.getElem_cons_succ, List.getElem_cons_zero, Act.put, List.setIfInBounds_toArray, List.set_cons_zero, List.set_cons_succ]
              refine lexH_call 18 #[.agg (q.cells none 0 0)] rfl rfl ?_ ?_
              focus (go_simp; done)
              refine (HBY.out V1 (HS7.out.later HK1.out)).mono ?_
              rintro e V2 ⟨v9, rfl, h9v, hb2⟩
              have HK2 := Lib.hid (HK1.out.trans (hb2.mono HK1.out.size))
              have HT := Lib.hid (str_byt h9v)
              obtain ⟨a9, c9, e9, _⟩ := h9v.there
              subst e9
              clear hb2 h9v
              refine ⟨_, rfl, HK2.out, ?_⟩
              simp only [List.getElem_toArray, List.getElem_cons_succ, List.getElem_cons_zero, Act.put, List.setIfInBounds_toArray, List.set_cons_zero, List.set_cons_succ]
              refine lexH_convT rfl rfl _ _ _ rfl rfl HT.out HK2.out ?_
              simp only [List.getElem_toArray, List.getElem_cons_succ, List.getElem_cons_zero, Act.put, List.setIfInBounds_toArray, List.set_cons_zero, List.set_cons_succ]
              cases hne : ((strL (callL q (shX x (8 + 8 * i + 8)) 0)).toList == (strB n x).toList) with
              | false =>
                have HOKX := Lib.hid (show okC x n = false by rw [HOKE.out, hmay, hne]; rfl)
                generalize strL (callL q (shX x (8 + 8 * i + 8)) 0) = s1 at *
                generalize strB n x = s2 at *
                refine lexH_yield (v := .bool true) rfl rfl (fun W hW => ?_) ?_
                focus (go_simp; first | done | simp [hne, bne])
                simp only [List.getElem_toArray, List.getElem_cons_succ, List.getElem_cons_zero, Act.put, List.setIfInBounds_toArray, List.set_cons_zero, List.set_cons_succ]
                refine lexH_yieldE rfl rfl ?_
                apply Exists.intro
                refine ⟨fun W hW => ?_, ?_⟩
                focus (go_simp; exact rfl)
                simp only [List.getElem_toArray, List.getElem_cons_succ, List.getElem_cons_zero, Act.put, List.setIfInBounds_toArray, List.set_cons_zero, List.set_cons_succ]
                refine lexH_nil ?_
                have HE := Lib.hid (ErrAt.mk (w := w) (HR7.out.later HK2.out) (HB7.out.trans (HK2.out.mono HB7.out.size)))
                have hth : V2.there w.heap.size 0 zC.size := HE.out.row.there 0 12 (by decide)
                have hsz := sizeZ
                have hoz := oneZ
                go_wp2_with (first | (refine wpList_store_mid rfl 29 _ _ rfl w.heap.size 0 zC rfl rfl hth hsz hoz ?_) | fail)
                have HE2 := Lib.hid HE.out.lay
                refine bodyPost_ret (v := .tuple #[.agg ((q0 0).cells none 0 0), .int .i64 5]) ?_ rfl (by rw [← HRP.out]; exact .inr ⟨HOKX.out, rfl, HE2.out.bel⟩)
                exact results_cs rfl rfl rfl (load_call HE2.out.row rfl)
              | true =>
                have HOKX := Lib.hid (show okC x n = true by rw [HOKE.out, hmay, hne]; rfl)
                generalize strL (callL q (shX x (8 + 8 * i + 8)) 0) = s1 at *
                generalize strB n x = s2 at *
                refine lexH_yield (v := .bool false) rfl rfl (fun W hW => ?_) ?_
                focus (go_simp; first | done | simp [hne, bne])
                simp only [List.getElem_toArray, List.getElem_cons_succ, List.getElem_cons_zero, Act.put, List.setIfInBounds_toArray, List.set_cons_zero, List.set_cons_succ]
                refine lexH_yieldE rfl rfl ?_
                apply Exists.intro
                refine ⟨fun W hW => ?_, ?_⟩
                focus (go_simp; exact rfl)
                simp only [List.getElem_toArray, List.getElem_cons_succ, List.getElem_cons_zero, Act.put, List.setIfInBounds_toArray, List.set_cons_zero, List.set_cons_succ]
                refine lexH_nil ?_
                have hx := HX7.out.later HK2.out
                have l0 : V2.cell? ⟨W6.heap.size, 0, none⟩ = some (.int .u8 (q.kind : Int)) := hx.cell 0 (by decide)
                have l1 : V2.cell? ⟨W6.heap.size, 1, none⟩ = some (.int .i64 q.pid) := hx.cell 1 (by decide)
                have l2 : V2.cell? ⟨W6.heap.size, 2, none⟩ = some (.int .i64 q.node) := hx.cell 2 (by decide)
                have l3 : V2.cell? ⟨W6.heap.size, 3, none⟩ = some (.int .i64 q.page) := hx.cell 3 (by decide)
                have l4 : V2.cell? ⟨W6.heap.size, 4, none⟩ = some (.int .i64 q.count) := hx.cell 4 (by decide)
                have l5 : V2.cell? ⟨W6.heap.size, 5, none⟩ = some (.int .i64 q.addr) := hx.cell 5 (by decide)
                have l6 : V2.cell? ⟨W6.heap.size, 6, none⟩ = some (.int .i64 q.size) := hx.cell 6 (by decide)
                have l7 : V2.cell? ⟨W6.heap.size, 7, none⟩ = some (.int .u8 (q.rights : Int)) := hx.cell 7 (by decide)
                have l8 : V2.cell? ⟨W6.heap.size, 8, none⟩ = some (.int .u8 (q.pk : Int)) := hx.cell 8 (by decide)
                have l9 : V2.cell? ⟨W6.heap.size, 9, none⟩ = some (.int .u8 (q.pm : Int)) := hx.cell 9 (by decide)
                have l10 : V2.cell? ⟨W6.heap.size, 10, none⟩ = some (.int .u64 (q.handle : Int)) := hx.cell 10 (by decide)
                have l11 : V2.cell? ⟨W6.heap.size, 11, none⟩ = some (.slice none 0 0) := hx.cell 11 (by decide)
                clear hx
                have hr := HR7.out.later HK2.out
                have hth : V2.there w.heap.size 0 (q.cells none 0 0).size := hr.there 0 12 (by decide)
                have HRF := Lib.hid (row_lay hr q none 0 0)
                have HO := Lib.hid (Only.setCells (S := fun k => k = w.heap.size) (b := w.heap.size) rfl (q.cells none 0 0).toList 0 V2)
                have HBF := Lib.hid (HO.out.below (HB7.out.trans (HK2.out.mono HB7.out.size)) (Nat.le_trans HB7.out.size HK2.out.size) (fun k hk => by omega))
                have hsz : (Tryd.prog.info? 29).map (·.size) = some (q.cells none 0 0).size := sizeCall
                have hoz : (q.cells none 0 0).all (·.oneCell') = true := by simp [Value.oneCell']
                clear hr
                go_wp2_with (first | (refine wpList_store_mid rfl 29 _ _ rfl w.heap.size 0 (q.cells none 0 0) rfl rfl hth hsz hoz ?_) | fail)
                have HSF := Lib.hid (HSK.out _ _ HO.out (B67.out.trans (HK2.out.mono B67.out.size)))
                refine bodyPost_ret (v := .tuple #[.agg (q.cells none 0 0), .int .i64 0]) ?_ rfl (by
                  rw [← HRP.out]
                  refine .inl ⟨HOKX.out, none, 0, by rw [HK.out, HQE.out, HM0.out], ?_, HBF.out⟩
                  rw [HK.out, HM0.out, show atK k + 8 = 8 + 8 * i + 8 by unfold atK; rw [HLN.out]]
                  exact HSF.out)
                exact results_cs rfl rfl rfl (load_call HRF.out rfl)
          | true =>
            by_cases hroom : 8 + 8 * i + 8 ≤ n
            · have hroomI : (8 + 8 * (i : Int)) + 8 ≤ (n : Int) := by omega
              have HM0 := Lib.hid (show mT k n = n - (8 + 8 * i + 8) from by rw [HMT.out, HKT.out, hkk, decide_eq_true hroom]; rfl)
              have HOW := Lib.hid (World.ownsRow_made wr (e := 5) (base := wr.heap.size) (size := 1) #[] 0 (Nat.le_refl _) (Nat.zero_le _) (by simp))
              have hba : Below wr.heap.size wr (wr.alloc (.cells #[] 5)) := (Below.refl _ _).alloc (Nat.le_refl _) _
              have HBA := Lib.hid hba
              obtain ⟨ta, hta⟩ : ∃ ta, (if c = 8 + 8 * i + 8 then (⟨g, o, none⟩ : Addr) else ⟨g, o + (8 + 8 * i + 8) * 1, none⟩) = ta := ⟨_, rfl⟩
              have HSL := Lib.hid (show ∀ V, (Instr.sliceAt 27 (.slice (some ⟨g, o, none⟩) n c) (some (.int .i64 ((8 + 8 * (i : Int)) + 8))) none none).run Tryd.prog V = .ok (.slice (some ta) (n - (8 + 8 * i + 8)) (c - (8 + 8 * i + 8))) V from fun V => by rw [← hta]; exact run_sub_from Tryd.underlying27 sizeB g o n c (8 + 8 * i + 8) hroom V)
              have HTS := Lib.hid (show Src (wr.alloc (.cells #[] 5)) (some ta) (n - (8 + 8 * i + 8)) (shX x (8 + 8 * i + 8)) from by rw [← hta]; exact (HS.out.later (HB4.out.trans (hba.mono HB4.out.size))).tailK (8 + 8 * i + 8) hnc)
              clear HNU hba hta
              go_wp2_with (first | (refine wpList_sliceM rfl _ _ _ _ _ rfl (HSL.out _) ?_) | (at_builtin; refine wpList_append_src _ rfl _ _ 27 rfl wr.heap.size 5 i0 _ 1 1 Tryd.underlying27 hi hz0 hz1 hz2 rfl (by decide) _ _ _ rfl HOW.out _ _ _ (bytL (n - (8 + 8 * i + 8)) (shX x (8 + 8 * i + 8))) rfl (by rw [bytL_len]; omega) HTS.out.cells (bytL_one _ _) (by unfold maxLen; omega) (by omega) HBA.out.size ?_; intro v5 W5 hown5 hg5 _; rw [Nat.zero_add, List.nil_append] at hown5; obtain ⟨a8, c8, e8, _⟩ := owns_slice hown5; subst e8) | fail)
              have ho5 : Only (fun k => (Value.slice (some ⟨wr.heap.size, 0, none⟩) 0 0).ownBlock = some k) (wr.alloc (.cells #[] 5)) W5 := Only.of_grown hg5
              have hb5 : Below wr.heap.size wr W5 := ho5.below HBA.out HBA.out.size (fun k hk => (HOW.out.lt k hk).1)
              have HBT := Lib.hid (show BytAt wr.heap.size (lisX (shX x (8 + 8 * i + 8)) (n - (8 + 8 * i + 8))) (.slice a8 (n - (8 + 8 * i + 8)) c8) W5 from by
                unfold BytAt
                rw [lisX_len, bvs_lisX]
                exact hown5)
              have HB5 := Lib.hid (HB4.out.trans (hb5.mono HB4.out.size))
              have HR5 := Lib.hid (HR4.out.later hb5)
              have HN5 := Lib.hid (HNM.out.below hb5)
              have HLW := Lib.hid (show w.heap.size < wr.heap.size from HR4.out.lt)
              clear ho5 hb5 hown5 hg5 HB4 HR4 HNM HBA HOW HTS HSL
              obtain ⟨m, hm⟩ : ∃ m, n - (8 + 8 * i + 8) = m := ⟨_, rfl⟩
              rw [hm] at HBT HM0
              simp only [hm]
              have hm2 : m ≤ 2000 := by
                have h7 := hasK_len hkk
                have h8 := HLN.out
                omega
              refine (of_any HOK.out HN5.out (by rw [rdL_len, HLN.out]) a8 m c8).mono ?_
              rintro e W6 ⟨rfl, hb6⟩
              have HB6 := Lib.hid (HB5.out.trans (hb6.mono HB5.out.size))
              have HR6 := Lib.hid (HR5.out.later hb6)
              have HBT6 := Lib.hid (HBT.out.later hb6)
              have HS6 := Lib.hid (src_byt HBT6.out)
              clear hb6 HB5 HR5 HN5 HBT
              generalize hq : ofN k (fun j => (rdL x n i i).getD j 0) = q at *
              have HSK := Lib.hid (show ∀ (V2 V : World), Only (fun k => k = w.heap.size) V2 V → Below W6.heap.size W6 V2 → Src V a8 m (shX x (8 + 8 * i + 8)) from fun V2 V h1 h2 => src_byt ((HBT6.out.later h2).only h1 (fun k hk e => by have := (HBT6.out.lt k hk).1; have := HLW.out; omega)))
              obtain ⟨W7, hW7⟩ : ∃ W7, W7 = W6.alloc (.cells #[.int .u8 (q.kind : Int), .int .i64 q.pid, .int .i64 q.node, .int .i64 q.page, .int .i64 q.count, .int .i64 q.addr, .int .i64 q.size, .int .u8 (q.rights : Int), .int .u8 (q.pk : Int), .int .u8 (q.pm : Int), .int .u64 (q.handle : Int), .slice a8 m c8] 29) := ⟨_, rfl⟩
              have hb7 : Below W6.heap.size W6 W7 := by rw [hW7]; exact (Below.refl _ _).alloc (Nat.le_refl _) _
              have HX7 := Lib.hid (show RowAt W7 W6.heap.size 12 (cellC (q.list a8 m c8)) from by rw [hW7]; exact row_list W6 q a8 m c8 _)
              have HB7 := Lib.hid (HB6.out.trans (hb7.mono HB6.out.size))
              have HR7 := Lib.hid (HR6.out.later hb7)
              have HS7 := Lib.hid (HS6.out.later hb7)
              have HOKE := Lib.hid (show okC x n = (mayC q m && ((strL (callL q (shX x (8 + 8 * i + 8)) m)).toList == (strB n x).toList)) from by
                unfold okC
                rw [HK.out, decide_eq_true h9, HOK.out, HQE.out, HM0.out, show atK k + 8 = 8 + 8 * i + 8 by unfold atK; rw [HLN.out]]
                rfl)
              have LQ := Lib.hid (show ∀ V, Kept W7.heap.size W7 V → (loadVar 29 ⟨W6.heap.size, 0, none⟩).run Tryd.prog V = .ok (.agg (q.cells a8 m c8)) V from fun V hV => load_call (HX7.out.later hV.below) rfl)
              have LX := Lib.hid (show ∀ V, Kept W7.heap.size W7 V → (convert 27 9 (.slice (some ⟨g, o, none⟩) n c)).run Tryd.prog V = .ok (.string (strB n x)) V from fun V hV => run_string_src (HS.out.later (HB7.out.trans (hV.below.mono HB7.out.size))))
              have HMY := Lib.hid (fun V hV => cmay_any q HQO.out a8 m c8 (shX x (8 + 8 * i + 8)) (by omega) V hV)
              have HBY := Lib.hid (fun V hV => rbytes_any q HQO.out a8 m c8 (shX x (8 + 8 * i + 8)) (by omega) V hV)
              have B67 := Lib.hid hb7
              clear hb7
              go_wp2_with (fail)
              rw [← hW7]
              clear hW7
              refine wp_region_lex (Kept W7.heap.size W7) [(0, false), (1, true), (2, false), (3, false), (4, false), (7, false), (8, false), (5, true), (6, true), (9, false), (10, false)] (by kernel_rfl) (by kernel_rfl) rfl (by kernel_rfl) (Below.refl _ W7).drew ?_
              intro V0 hK0
              have HK0 := Lib.hid (show Below W7.heap.size W7 V0 from hK0)
              clear hK0
              refine lexH_load rfl rfl _ _ rfl rfl LQ.out ?_
              simp only [List.getElem_toArray, List.getElem_cons_zero, Act.put, List.setIfInBounds_toArray, List.set_cons_zero, List.set_cons_succ]
              refine lexH_call 14 #[.agg (q.cells a8 m c8)] rfl rfl ?_ ?_
              focus (go_simp; done)
              refine (HMY.out _ (HS7.out.later HK0.out)).mono ?_
              rintro e V1 ⟨rfl, hb1⟩
              have HK1 := Lib.hid (HK0.out.trans (hb1.mono HK0.out.size))
              clear hb1
              refine ⟨_, rfl, HK1.out, ?_⟩
              simp only [List.getElem_toArray, List.getElem_cons_succ, List.getElem_cons_zero, Act.put, List.setIfInBounds_toArray, List.set_cons_zero, List.set_cons_succ]
              refine lexH_yieldE rfl rfl ?_
              apply Exists.intro
              refine ⟨fun W hW => ?_, ?_⟩
              focus (go_simp; exact rfl)
              simp only [List.getElem_toArray, List.getElem_cons_succ, List.getElem_cons_zero, Act.put, List.setIfInBounds_toArray, List.set_cons_zero, List.set_cons_succ]
              refine lexH_yieldE rfl rfl ?_
              apply Exists.intro
              refine ⟨fun W hW => ?_, ?_⟩
              focus (go_simp; exact rfl)
              simp only [List.getElem_toArray, List.getElem_cons_succ, List.getElem_cons_zero, Act.put, List.setIfInBounds_toArray, List.set_cons_zero, List.set_cons_succ]
              cases hmay : mayC q m with
              | false =>
                have HOKX := Lib.hid (show okC x n = false by rw [HOKE.out, hmay]; rfl)
                refine lexH_skip rfl rfl ?_
                simp only [List.getElem_toArray, List.getElem_cons_succ, List.getElem_cons_zero, Act.put, List.setIfInBounds_toArray, List.set_cons_zero, List.set_cons_succ]
                refine lexH_skip rfl rfl ?_
                simp only [List.getElem_toArray, List.getElem_cons_succ, List.getElem_cons_zero, Act.put, List.setIfInBounds_toArray, List.set_cons_zero, List.set_cons_succ]
                refine lexH_skip rfl rfl ?_
                simp only [List.getElem_toArray, List.getElem_cons_succ, List.getElem_cons_zero, Act.put, List.setIfInBounds_toArray, List.set_cons_zero, List.set_cons_succ]
                refine lexH_pass rfl rfl HK1.out ?_
                simp only [List.getElem_toArray, List.getElem_cons_succ, List.getElem_cons_zero, Act.put, List.setIfInBounds_toArray, List.set_cons_zero, List.set_cons_succ]
                refine lexH_pass rfl rfl HK1.out ?_
                simp only [List.getElem_toArray, List.getElem_cons_succ, List.getElem_cons_zero, Act.put, List.setIfInBounds_toArray, List.set_cons_zero, List.set_cons_succ]
                refine lexH_skip rfl rfl ?_
                simp only [List.getElem_toArray, List.getElem_cons_succ, List.getElem_cons_zero, Act.put, List.setIfInBounds_toArray, List.set_cons_zero, List.set_cons_succ]
                refine lexH_yieldE rfl rfl ?_
                apply Exists.intro
                refine ⟨fun W hW => ?_, ?_⟩
                focus (go_simp; exact rfl)
                simp only [List.getElem_toArray, List.getElem_cons_succ, List.getElem_cons_zero, Act.put, List.setIfInBounds_toArray, List.set_cons_zero, List.set_cons_succ]
                refine lexH_nil ?_
                have HE := Lib.hid (ErrAt.mk (w := w) (HR7.out.later HK1.out) (HB7.out.trans (HK1.out.mono HB7.out.size)))
                have hth : V1.there w.heap.size 0 zC.size := HE.out.row.there 0 12 (by decide)
                have hsz := sizeZ
                have hoz := oneZ
                go_wp2_with (first | (refine wpList_store_mid rfl 29 _ _ rfl w.heap.size 0 zC rfl rfl hth hsz hoz ?_) | fail)
                have HE2 := Lib.hid HE.out.lay
                refine bodyPost_ret (v := .tuple #[.agg ((q0 0).cells none 0 0), .int .i64 5]) ?_ rfl (by rw [← HRP.out]; exact .inr ⟨HOKX.out, rfl, HE2.out.bel⟩)
                exact results_cs rfl rfl rfl (load_call HE2.out.row rfl)
              | true =>
                refine lexH_load rfl rfl _ _ rfl rfl LQ.out ?_
                simp only [List.getElem_toArray, List.getElem_cons_succ, List.getElem_cons_zero, Act.put, List.setIfInBounds_toArray, List.set_cons_zero, List.set_cons_succ]
                refine lexH_yieldE rfl rfl ?_
                apply Exists.intro
                refine ⟨fun W hW => ?_, ?_⟩
                focus (go_simp; exact rfl)
                simp only [List.getElem_toArray, List.getElem_cons_succ, List.getElem_cons_zero, Act.put, List.setIfInBounds_toArray, List.set_cons_zero, List.set_cons_succ]
                refine lexH_conv rfl rfl _ _ _ rfl rfl LX.out ?_
                simp only [List.getElem_toArray, List.getElem_cons_succ, List.getElem_cons_zero, Act.put, List.setIfInBounds_toArray, List.set_cons_zero, List.set_cons_succ]
                refine lexH_call 18 #[.agg (q.cells a8 m c8)] rfl rfl ?_ ?_
                focus (go_simp; done)
                refine (HBY.out V1 (HS7.out.later HK1.out)).mono ?_
                rintro e V2 ⟨v9, rfl, h9v, hb2⟩
                have HK2 := Lib.hid (HK1.out.trans (hb2.mono HK1.out.size))
                have HT := Lib.hid (str_byt h9v)
                obtain ⟨a9, c9, e9, _⟩ := h9v.there
                subst e9
                clear hb2 h9v
                refine ⟨_, rfl, HK2.out, ?_⟩
                simp only [List.getElem_toArray, List.getElem_cons_succ, List.getElem_cons_zero, Act.put, List.setIfInBounds_toArray, List.set_cons_zero, List.set_cons_succ]
                refine lexH_convT rfl rfl _ _ _ rfl rfl HT.out HK2.out ?_
                simp only [List.getElem_toArray, List.getElem_cons_succ, List.getElem_cons_zero, Act.put, List.setIfInBounds_toArray, List.set_cons_zero, List.set_cons_succ]
                cases hne : ((strL (callL q (shX x (8 + 8 * i + 8)) m)).toList == (strB n x).toList) with
                | false =>
                  have HOKX := Lib.hid (show okC x n = false by rw [HOKE.out, hmay, hne]; rfl)
                  generalize strL (callL q (shX x (8 + 8 * i + 8)) m) = s1 at *
                  generalize strB n x = s2 at *
                  refine lexH_yield (v := .bool true) rfl rfl (fun W hW => ?_) ?_
                  focus (go_simp; first | done | simp [hne, bne])
                  simp only [List.getElem_toArray, List.getElem_cons_succ, List.getElem_cons_zero, Act.put, List.setIfInBounds_toArray, List.set_cons_zero, List.set_cons_succ]
                  refine lexH_yieldE rfl rfl ?_
                  apply Exists.intro
                  refine ⟨fun W hW => ?_, ?_⟩
                  focus (go_simp; exact rfl)
                  simp only [List.getElem_toArray, List.getElem_cons_succ, List.getElem_cons_zero, Act.put, List.setIfInBounds_toArray, List.set_cons_zero, List.set_cons_succ]
                  refine lexH_nil ?_
                  have HE := Lib.hid (ErrAt.mk (w := w) (HR7.out.later HK2.out) (HB7.out.trans (HK2.out.mono HB7.out.size)))
                  have hth : V2.there w.heap.size 0 zC.size := HE.out.row.there 0 12 (by decide)
                  have hsz := sizeZ
                  have hoz := oneZ
                  go_wp2_with (first | (refine wpList_store_mid rfl 29 _ _ rfl w.heap.size 0 zC rfl rfl hth hsz hoz ?_) | fail)
                  have HE2 := Lib.hid HE.out.lay
                  refine bodyPost_ret (v := .tuple #[.agg ((q0 0).cells none 0 0), .int .i64 5]) ?_ rfl (by rw [← HRP.out]; exact .inr ⟨HOKX.out, rfl, HE2.out.bel⟩)
                  exact results_cs rfl rfl rfl (load_call HE2.out.row rfl)
                | true =>
                  have HOKX := Lib.hid (show okC x n = true by rw [HOKE.out, hmay, hne]; rfl)
                  generalize strL (callL q (shX x (8 + 8 * i + 8)) m) = s1 at *
                  generalize strB n x = s2 at *
                  refine lexH_yield (v := .bool false) rfl rfl (fun W hW => ?_) ?_
                  focus (go_simp; first | done | simp [hne, bne])
                  simp only [List.getElem_toArray, List.getElem_cons_succ, List.getElem_cons_zero, Act.put, List.setIfInBounds_toArray, List.set_cons_zero, List.set_cons_succ]
                  refine lexH_yieldE rfl rfl ?_
                  apply Exists.intro
                  refine ⟨fun W hW => ?_, ?_⟩
                  focus (go_simp; exact rfl)
                  simp only [List.getElem_toArray, List.getElem_cons_succ, List.getElem_cons_zero, Act.put, List.setIfInBounds_toArray, List.set_cons_zero, List.set_cons_succ]
                  refine lexH_nil ?_
                  have hx := HX7.out.later HK2.out
                  have l0 : V2.cell? ⟨W6.heap.size, 0, none⟩ = some (.int .u8 (q.kind : Int)) := hx.cell 0 (by decide)
                  have l1 : V2.cell? ⟨W6.heap.size, 1, none⟩ = some (.int .i64 q.pid) := hx.cell 1 (by decide)
                  have l2 : V2.cell? ⟨W6.heap.size, 2, none⟩ = some (.int .i64 q.node) := hx.cell 2 (by decide)
                  have l3 : V2.cell? ⟨W6.heap.size, 3, none⟩ = some (.int .i64 q.page) := hx.cell 3 (by decide)
                  have l4 : V2.cell? ⟨W6.heap.size, 4, none⟩ = some (.int .i64 q.count) := hx.cell 4 (by decide)
                  have l5 : V2.cell? ⟨W6.heap.size, 5, none⟩ = some (.int .i64 q.addr) := hx.cell 5 (by decide)
                  have l6 : V2.cell? ⟨W6.heap.size, 6, none⟩ = some (.int .i64 q.size) := hx.cell 6 (by decide)
                  have l7 : V2.cell? ⟨W6.heap.size, 7, none⟩ = some (.int .u8 (q.rights : Int)) := hx.cell 7 (by decide)
                  have l8 : V2.cell? ⟨W6.heap.size, 8, none⟩ = some (.int .u8 (q.pk : Int)) := hx.cell 8 (by decide)
                  have l9 : V2.cell? ⟨W6.heap.size, 9, none⟩ = some (.int .u8 (q.pm : Int)) := hx.cell 9 (by decide)
                  have l10 : V2.cell? ⟨W6.heap.size, 10, none⟩ = some (.int .u64 (q.handle : Int)) := hx.cell 10 (by decide)
                  have l11 : V2.cell? ⟨W6.heap.size, 11, none⟩ = some (.slice a8 m c8) := hx.cell 11 (by decide)
                  clear hx
                  have hr := HR7.out.later HK2.out
                  have hth : V2.there w.heap.size 0 (q.cells a8 m c8).size := hr.there 0 12 (by decide)
                  have HRF := Lib.hid (row_lay hr q a8 m c8)
                  have HO := Lib.hid (Only.setCells (S := fun k => k = w.heap.size) (b := w.heap.size) rfl (q.cells a8 m c8).toList 0 V2)
                  have HBF := Lib.hid (HO.out.below (HB7.out.trans (HK2.out.mono HB7.out.size)) (Nat.le_trans HB7.out.size HK2.out.size) (fun k hk => by omega))
                  have hsz : (Tryd.prog.info? 29).map (·.size) = some (q.cells a8 m c8).size := sizeCall
                  have hoz : (q.cells a8 m c8).all (·.oneCell') = true := by simp [Value.oneCell']
                  clear hr
                  go_wp2_with (first | (refine wpList_store_mid rfl 29 _ _ rfl w.heap.size 0 (q.cells a8 m c8) rfl rfl hth hsz hoz ?_) | fail)
                  have HSF := Lib.hid (HSK.out _ _ HO.out (B67.out.trans (HK2.out.mono B67.out.size)))
                  refine bodyPost_ret (v := .tuple #[.agg (q.cells a8 m c8), .int .i64 0]) ?_ rfl (by
                    rw [← HRP.out]
                    refine .inl ⟨HOKX.out, a8, c8, by rw [HK.out, HQE.out, HM0.out], ?_, HBF.out⟩
                    rw [HK.out, HM0.out, show atK k + 8 = 8 + 8 * i + 8 by unfold atK; rw [HLN.out]]
                    exact HSF.out)
                  exact results_cs rfl rfl rfl (load_call HRF.out rfl)
            · have hroomI : ¬ (8 + 8 * (i : Int)) + 8 ≤ (n : Int) := by omega
              have HM0 := Lib.hid (show mT k n = 0 from by rw [HMT.out, HKT.out, hkk, decide_eq_false hroom]; rfl)
              have HSR := Lib.hid (show Src wr none 0 (shX x (8 + 8 * i + 8)) from fun h => absurd h (by decide))
              clear HNU
              go_wp2_with (fail)
              refine (of_any HOK.out HNM.out (by rw [rdL_len, HLN.out]) none 0 0).mono ?_
              rintro e W6 ⟨rfl, hb6⟩
              have HB6 := Lib.hid (HB4.out.trans (hb6.mono HB4.out.size))
              have HR6 := Lib.hid (HR4.out.later hb6)
              have HS6 := Lib.hid (HSR.out.later hb6)
              clear hb6 HB4 HR4 HSR HNM
              generalize hq : ofN k (fun j => (rdL x n i i).getD j 0) = q at *
              have HSK := Lib.hid (show ∀ (V2 V : World), Only (fun k => k = w.heap.size) V2 V → Below W6.heap.size W6 V2 → Src V none 0 (shX x (8 + 8 * i + 8)) from fun _ _ _ _ h => absurd h (by decide))
              obtain ⟨W7, hW7⟩ : ∃ W7, W7 = W6.alloc (.cells #[.int .u8 (q.kind : Int), .int .i64 q.pid, .int .i64 q.node, .int .i64 q.page, .int .i64 q.count, .int .i64 q.addr, .int .i64 q.size, .int .u8 (q.rights : Int), .int .u8 (q.pk : Int), .int .u8 (q.pm : Int), .int .u64 (q.handle : Int), .slice none 0 0] 29) := ⟨_, rfl⟩
              have hb7 : Below W6.heap.size W6 W7 := by rw [hW7]; exact (Below.refl _ _).alloc (Nat.le_refl _) _
              have HX7 := Lib.hid (show RowAt W7 W6.heap.size 12 (cellC (q.list none 0 0)) from by rw [hW7]; exact row_list W6 q none 0 0 _)
              have HB7 := Lib.hid (HB6.out.trans (hb7.mono HB6.out.size))
              have HR7 := Lib.hid (HR6.out.later hb7)
              have HS7 := Lib.hid (HS6.out.later hb7)
              have HOKE := Lib.hid (show okC x n = (mayC q 0 && ((strL (callL q (shX x (8 + 8 * i + 8)) 0)).toList == (strB n x).toList)) from by
                unfold okC
                rw [HK.out, decide_eq_true h9, HOK.out, HQE.out, HM0.out, show atK k + 8 = 8 + 8 * i + 8 by unfold atK; rw [HLN.out]]
                rfl)
              have LQ := Lib.hid (show ∀ V, Kept W7.heap.size W7 V → (loadVar 29 ⟨W6.heap.size, 0, none⟩).run Tryd.prog V = .ok (.agg (q.cells none 0 0)) V from fun V hV => load_call (HX7.out.later hV.below) rfl)
              have LX := Lib.hid (show ∀ V, Kept W7.heap.size W7 V → (convert 27 9 (.slice (some ⟨g, o, none⟩) n c)).run Tryd.prog V = .ok (.string (strB n x)) V from fun V hV => run_string_src (HS.out.later (HB7.out.trans (hV.below.mono HB7.out.size))))
              have HMY := Lib.hid (fun V hV => cmay_any q HQO.out none 0 0 (shX x (8 + 8 * i + 8)) (by omega) V hV)
              have HBY := Lib.hid (fun V hV => rbytes_any q HQO.out none 0 0 (shX x (8 + 8 * i + 8)) (by omega) V hV)
              have B67 := Lib.hid hb7
              clear hb7
              go_wp2_with (fail)
              rw [← hW7]
              clear hW7
              refine wp_region_lex (Kept W7.heap.size W7) [(0, false), (1, true), (2, false), (3, false), (4, false), (7, false), (8, false), (5, true), (6, true), (9, false), (10, false)] (by kernel_rfl) (by kernel_rfl) rfl (by kernel_rfl) (Below.refl _ W7).drew ?_
              intro V0 hK0
              have HK0 := Lib.hid (show Below W7.heap.size W7 V0 from hK0)
              clear hK0
              refine lexH_load rfl rfl _ _ rfl rfl LQ.out ?_
              simp only [List.getElem_toArray, List.getElem_cons_zero, Act.put, List.setIfInBounds_toArray, List.set_cons_zero, List.set_cons_succ]
              refine lexH_call 14 #[.agg (q.cells none 0 0)] rfl rfl ?_ ?_
              focus (go_simp; done)
              refine (HMY.out _ (HS7.out.later HK0.out)).mono ?_
              rintro e V1 ⟨rfl, hb1⟩
              have HK1 := Lib.hid (HK0.out.trans (hb1.mono HK0.out.size))
              clear hb1
              refine ⟨_, rfl, HK1.out, ?_⟩
              simp only [List.getElem_toArray, List.getElem_cons_succ, List.getElem_cons_zero, Act.put, List.setIfInBounds_toArray, List.set_cons_zero, List.set_cons_succ]
              refine lexH_yieldE rfl rfl ?_
              apply Exists.intro
              refine ⟨fun W hW => ?_, ?_⟩
              focus (go_simp; exact rfl)
              simp only [List.getElem_toArray, List.getElem_cons_succ, List.getElem_cons_zero, Act.put, List.setIfInBounds_toArray, List.set_cons_zero, List.set_cons_succ]
              refine lexH_yieldE rfl rfl ?_
              apply Exists.intro
              refine ⟨fun W hW => ?_, ?_⟩
              focus (go_simp; exact rfl)
              simp only [List.getElem_toArray, List.getElem_cons_succ, List.getElem_cons_zero, Act.put, List.setIfInBounds_toArray, List.set_cons_zero, List.set_cons_succ]
              cases hmay : mayC q 0 with
              | false =>
                have HOKX := Lib.hid (show okC x n = false by rw [HOKE.out, hmay]; rfl)
                refine lexH_skip rfl rfl ?_
                simp only [List.getElem_toArray, List.getElem_cons_succ, List.getElem_cons_zero, Act.put, List.setIfInBounds_toArray, List.set_cons_zero, List.set_cons_succ]
                refine lexH_skip rfl rfl ?_
                simp only [List.getElem_toArray, List.getElem_cons_succ, List.getElem_cons_zero, Act.put, List.setIfInBounds_toArray, List.set_cons_zero, List.set_cons_succ]
                refine lexH_skip rfl rfl ?_
                simp only [List.getElem_toArray, List.getElem_cons_succ, List.getElem_cons_zero, Act.put, List.setIfInBounds_toArray, List.set_cons_zero, List.set_cons_succ]
                refine lexH_pass rfl rfl HK1.out ?_
                simp only [List.getElem_toArray, List.getElem_cons_succ, List.getElem_cons_zero, Act.put, List.setIfInBounds_toArray, List.set_cons_zero, List.set_cons_succ]
                refine lexH_pass rfl rfl HK1.out ?_
                simp only [List.getElem_toArray, List.getElem_cons_succ, List.getElem_cons_zero, Act.put, List.setIfInBounds_toArray, List.set_cons_zero, List.set_cons_succ]
                refine lexH_skip rfl rfl ?_
                simp only [List.getElem_toArray, List.getElem_cons_succ, List.getElem_cons_zero, Act.put, List.setIfInBounds_toArray, List.set_cons_zero, List.set_cons_succ]
                refine lexH_yieldE rfl rfl ?_
                apply Exists.intro
                refine ⟨fun W hW => ?_, ?_⟩
                focus (go_simp; exact rfl)
                simp only [List.getElem_toArray, List.getElem_cons_succ, List.getElem_cons_zero, Act.put, List.setIfInBounds_toArray, List.set_cons_zero, List.set_cons_succ]
                refine lexH_nil ?_
                have HE := Lib.hid (ErrAt.mk (w := w) (HR7.out.later HK1.out) (HB7.out.trans (HK1.out.mono HB7.out.size)))
                have hth : V1.there w.heap.size 0 zC.size := HE.out.row.there 0 12 (by decide)
                have hsz := sizeZ
                have hoz := oneZ
                go_wp2_with (first | (refine wpList_store_mid rfl 29 _ _ rfl w.heap.size 0 zC rfl rfl hth hsz hoz ?_) | fail)
                have HE2 := Lib.hid HE.out.lay
                refine bodyPost_ret (v := .tuple #[.agg ((q0 0).cells none 0 0), .int .i64 5]) ?_ rfl (by rw [← HRP.out]; exact .inr ⟨HOKX.out, rfl, HE2.out.bel⟩)
                exact results_cs rfl rfl rfl (load_call HE2.out.row rfl)
              | true =>
                refine lexH_load rfl rfl _ _ rfl rfl LQ.out ?_
                simp only [List.getElem_toArray, List.getElem_cons_succ, List.getElem_cons_zero, Act.put, List.setIfInBounds_toArray, List.set_cons_zero, List.set_cons_succ]
                refine lexH_yieldE rfl rfl ?_
                apply Exists.intro
                refine ⟨fun W hW => ?_, ?_⟩
                focus (go_simp; exact rfl)
                simp only [List.getElem_toArray, List.getElem_cons_succ, List.getElem_cons_zero, Act.put, List.setIfInBounds_toArray, List.set_cons_zero, List.set_cons_succ]
                refine lexH_conv rfl rfl _ _ _ rfl rfl LX.out ?_
                simp only [List.getElem_toArray, List.getElem_cons_succ, List.getElem_cons_zero, Act.put, List.setIfInBounds_toArray, List.set_cons_zero, List.set_cons_succ]
                refine lexH_call 18 #[.agg (q.cells none 0 0)] rfl rfl ?_ ?_
                focus (go_simp; done)
                refine (HBY.out V1 (HS7.out.later HK1.out)).mono ?_
                rintro e V2 ⟨v9, rfl, h9v, hb2⟩
                have HK2 := Lib.hid (HK1.out.trans (hb2.mono HK1.out.size))
                have HT := Lib.hid (str_byt h9v)
                obtain ⟨a9, c9, e9, _⟩ := h9v.there
                subst e9
                clear hb2 h9v
                refine ⟨_, rfl, HK2.out, ?_⟩
                simp only [List.getElem_toArray, List.getElem_cons_succ, List.getElem_cons_zero, Act.put, List.setIfInBounds_toArray, List.set_cons_zero, List.set_cons_succ]
                refine lexH_convT rfl rfl _ _ _ rfl rfl HT.out HK2.out ?_
                simp only [List.getElem_toArray, List.getElem_cons_succ, List.getElem_cons_zero, Act.put, List.setIfInBounds_toArray, List.set_cons_zero, List.set_cons_succ]
                cases hne : ((strL (callL q (shX x (8 + 8 * i + 8)) 0)).toList == (strB n x).toList) with
                | false =>
                  have HOKX := Lib.hid (show okC x n = false by rw [HOKE.out, hmay, hne]; rfl)
                  generalize strL (callL q (shX x (8 + 8 * i + 8)) 0) = s1 at *
                  generalize strB n x = s2 at *
                  refine lexH_yield (v := .bool true) rfl rfl (fun W hW => ?_) ?_
                  focus (go_simp; first | done | simp [hne, bne])
                  simp only [List.getElem_toArray, List.getElem_cons_succ, List.getElem_cons_zero, Act.put, List.setIfInBounds_toArray, List.set_cons_zero, List.set_cons_succ]
                  refine lexH_yieldE rfl rfl ?_
                  apply Exists.intro
                  refine ⟨fun W hW => ?_, ?_⟩
                  focus (go_simp; exact rfl)
                  simp only [List.getElem_toArray, List.getElem_cons_succ, List.getElem_cons_zero, Act.put, List.setIfInBounds_toArray, List.set_cons_zero, List.set_cons_succ]
                  refine lexH_nil ?_
                  have HE := Lib.hid (ErrAt.mk (w := w) (HR7.out.later HK2.out) (HB7.out.trans (HK2.out.mono HB7.out.size)))
                  have hth : V2.there w.heap.size 0 zC.size := HE.out.row.there 0 12 (by decide)
                  have hsz := sizeZ
                  have hoz := oneZ
                  go_wp2_with (first | (refine wpList_store_mid rfl 29 _ _ rfl w.heap.size 0 zC rfl rfl hth hsz hoz ?_) | fail)
                  have HE2 := Lib.hid HE.out.lay
                  refine bodyPost_ret (v := .tuple #[.agg ((q0 0).cells none 0 0), .int .i64 5]) ?_ rfl (by rw [← HRP.out]; exact .inr ⟨HOKX.out, rfl, HE2.out.bel⟩)
                  exact results_cs rfl rfl rfl (load_call HE2.out.row rfl)
                | true =>
                  have HOKX := Lib.hid (show okC x n = true by rw [HOKE.out, hmay, hne]; rfl)
                  generalize strL (callL q (shX x (8 + 8 * i + 8)) 0) = s1 at *
                  generalize strB n x = s2 at *
                  refine lexH_yield (v := .bool false) rfl rfl (fun W hW => ?_) ?_
                  focus (go_simp; first | done | simp [hne, bne])
                  simp only [List.getElem_toArray, List.getElem_cons_succ, List.getElem_cons_zero, Act.put, List.setIfInBounds_toArray, List.set_cons_zero, List.set_cons_succ]
                  refine lexH_yieldE rfl rfl ?_
                  apply Exists.intro
                  refine ⟨fun W hW => ?_, ?_⟩
                  focus (go_simp; exact rfl)
                  simp only [List.getElem_toArray, List.getElem_cons_succ, List.getElem_cons_zero, Act.put, List.setIfInBounds_toArray, List.set_cons_zero, List.set_cons_succ]
                  refine lexH_nil ?_
                  have hx := HX7.out.later HK2.out
                  have l0 : V2.cell? ⟨W6.heap.size, 0, none⟩ = some (.int .u8 (q.kind : Int)) := hx.cell 0 (by decide)
                  have l1 : V2.cell? ⟨W6.heap.size, 1, none⟩ = some (.int .i64 q.pid) := hx.cell 1 (by decide)
                  have l2 : V2.cell? ⟨W6.heap.size, 2, none⟩ = some (.int .i64 q.node) := hx.cell 2 (by decide)
                  have l3 : V2.cell? ⟨W6.heap.size, 3, none⟩ = some (.int .i64 q.page) := hx.cell 3 (by decide)
                  have l4 : V2.cell? ⟨W6.heap.size, 4, none⟩ = some (.int .i64 q.count) := hx.cell 4 (by decide)
                  have l5 : V2.cell? ⟨W6.heap.size, 5, none⟩ = some (.int .i64 q.addr) := hx.cell 5 (by decide)
                  have l6 : V2.cell? ⟨W6.heap.size, 6, none⟩ = some (.int .i64 q.size) := hx.cell 6 (by decide)
                  have l7 : V2.cell? ⟨W6.heap.size, 7, none⟩ = some (.int .u8 (q.rights : Int)) := hx.cell 7 (by decide)
                  have l8 : V2.cell? ⟨W6.heap.size, 8, none⟩ = some (.int .u8 (q.pk : Int)) := hx.cell 8 (by decide)
                  have l9 : V2.cell? ⟨W6.heap.size, 9, none⟩ = some (.int .u8 (q.pm : Int)) := hx.cell 9 (by decide)
                  have l10 : V2.cell? ⟨W6.heap.size, 10, none⟩ = some (.int .u64 (q.handle : Int)) := hx.cell 10 (by decide)
                  have l11 : V2.cell? ⟨W6.heap.size, 11, none⟩ = some (.slice none 0 0) := hx.cell 11 (by decide)
                  clear hx
                  have hr := HR7.out.later HK2.out
                  have hth : V2.there w.heap.size 0 (q.cells none 0 0).size := hr.there 0 12 (by decide)
                  have HRF := Lib.hid (row_lay hr q none 0 0)
                  have HO := Lib.hid (Only.setCells (S := fun k => k = w.heap.size) (b := w.heap.size) rfl (q.cells none 0 0).toList 0 V2)
                  have HBF := Lib.hid (HO.out.below (HB7.out.trans (HK2.out.mono HB7.out.size)) (Nat.le_trans HB7.out.size HK2.out.size) (fun k hk => by omega))
                  have hsz : (Tryd.prog.info? 29).map (·.size) = some (q.cells none 0 0).size := sizeCall
                  have hoz : (q.cells none 0 0).all (·.oneCell') = true := by simp [Value.oneCell']
                  clear hr
                  go_wp2_with (first | (refine wpList_store_mid rfl 29 _ _ rfl w.heap.size 0 (q.cells none 0 0) rfl rfl hth hsz hoz ?_) | fail)
                  have HSF := Lib.hid (HSK.out _ _ HO.out (B67.out.trans (HK2.out.mono B67.out.size)))
                  refine bodyPost_ret (v := .tuple #[.agg (q.cells none 0 0), .int .i64 0]) ?_ rfl (by
                    rw [← HRP.out]
                    refine .inl ⟨HOKX.out, none, 0, by rw [HK.out, HQE.out, HM0.out], ?_, HBF.out⟩
                    rw [HK.out, HM0.out, show atK k + 8 = 8 + 8 * i + 8 by unfold atK; rw [HLN.out]]
                    exact HSF.out)
                  exact results_cs rfl rfl rfl (load_call HRF.out rfl)
  · have h9I : (255 : Int) < (numX x n 0 : Nat) := by omega
    have HNU := Lib.hid (HNX.out 0 w2 (by decide) HS2.out)
    have HOKX := Lib.hid (show okC x n = false by unfold okC; rw [decide_eq_false h9]; rfl)
    have HE := Lib.hid (ErrAt.mk (w := w) HR2.out HB2.out)
    have hth : w2.there w.heap.size 0 zC.size := HR2.out.there 0 12 (by decide)
    have hsz := sizeZ
    have hoz := oneZ
    clear h9
    go_enter Tryd.func19, Tryd.ntmps19
    go_wp2_with (fail)
    rw [← hw2]
    refine HNU.out.mono ?_
    rintro e w' ⟨rfl, rfl⟩
    clear hw2
    go_wp2_with (first | (refine wpList_store_mid rfl 29 _ _ rfl w.heap.size 0 zC rfl rfl hth hsz hoz ?_) | fail)
    have HE2 := Lib.hid HE.out.lay
    refine bodyPost_ret (v := .tuple #[.agg ((q0 0).cells none 0 0), .int .i64 5]) ?_ rfl (by rw [← HRP.out]; exact .inr ⟨HOKX.out, rfl, HE2.out.bel⟩)
    exact results_cs rfl rfl rfl (load_call HE2.out.row rfl)
end Go.Proofs.YtkmjkkeldbocdaaDoor
