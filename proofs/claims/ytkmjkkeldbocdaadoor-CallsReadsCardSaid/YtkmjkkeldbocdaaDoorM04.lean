/-
  Texts that this claim builds on, merged.
-/
import Derived.Test.YtkmjkkeldbocdaaDoorOwn
import Derived.Test.YtkmjkkeldbocdaaDoorM03
import Derived.Test.YtkmjkkeldbocdaaDoorCsBytes
import Derived.Laws.BitsAllLaws
import Derived.Test.YtkmjkkeldbocdaaDoorCsRr
import Derived.Test.YtkmjkkeldbocdaaDoorLexApp
import Derived.Test.YtkmjkkeldbocdaaDoorCsRd
import Derived.Test.YtkmjkkeldbocdaaDoorM01
namespace Go.Proofs.YtkmjkkeldbocdaaDoor
/-! append of one to a row of the call's own: where the new row lies. Of no program. -/
section
open Go.RowKit Go

section
variable {P : Program}
/-- The row stays where it was, or lies where nothing lay. -/
theorem append_where {w : World} (base : Nat) (t ty e : TypeId) (i : TypeInfo) (z : Value) (size bytes : Nat) (ht : P.underlying t = some (.slice e)) (hi : P.info? e = some i) (hz : i.zero = some z)
    (hsize : i.size = size) (hby : i.bytes = bytes) (v : Value) (n : Nat) (xs : List Value) (hown : w.ownsRow base e size v n xs)
    (a : Addr) (c : Nat) (news : List Value) (hl : news.length = 1 * size) (hnews : ∀ j u, news[j]? = some u → w.cell? (a.add j) = some u) (h1 : ∀ u ∈ news, u.oneCell' = true)
    (hn : n ≤ 1000) (hb : bytes ≤ 1000) {v' : Value} {w' : World} (hr : (Builtin.append_ #[t, t] ty #[v, .slice (some a) 1 c]).run P w = .ok v' w') :
    v'.ownBlock = v.ownBlock ∨ ∀ k, v'.ownBlock = some k → w.heap.size ≤ k := by
  subst hsize
  subst hby
  rcases hown.2 with ⟨rfl, rfl⟩ | ⟨g, cap, cur, rfl, hbg, hg, hnc, hcm, hcs, htake⟩
  · have h := run_append_nil (P := P) w t ty e i z ht hi hz a 1 c news hl hnews (by omega) (by omega) (by omega)
    rw [h] at hr
    injection hr with hr _
    subst hr
    right
    intro k hk
    simp only [Value.ownBlock, Option.some.injEq] at hk
    omega
  · by_cases hroom : n + 1 ≤ cap
    · have hfit : n * i.size + news.length ≤ cur.size := by rw [hl, hcs, ← Nat.add_mul]; exact Nat.mul_le_mul_right _ hroom
      have h := run_append_room (P := P) w t ty e i ht hi g n cap cur hg a 1 c news hl hnews h1 hroom hfit
      rw [h] at hr
      injection hr with hr _
      subst hr
      exact .inl rfl
    · have hbb : (n + 1) * i.bytes ≤ 140737488355328 := Nat.le_trans (Nat.mul_le_mul (show n + 1 ≤ 1001 by omega) hb) (by decide)
      have h := run_append_grow (P := P) w t ty e i z ht hi hz ⟨g, 0, none⟩ n cap xs hown.1 (hown.cells (g := g) rfl) a 1 c news hl hnews (by omega) (by omega) (growslice_fits (by omega) hbb)
      rw [h] at hr
      injection hr with hr _
      subst hr
      right
      intro k hk
      simp only [Value.ownBlock, Option.some.injEq] at hk
      omega
/-- append(s, x) behind the slice of x alone; and where it lies. -/
theorem wpList_append_where (w : World) {ops : Array Oper} {rest : List Oper} {o : Oper} {a : Act} {Q : Exit → Act → World → Prop} (hgd : o.guard = none) (s x : Operand) (t : TypeId)
    (ho : o.op = .call { callee := .builtin .append, args := #[s, x], argTypes := #[t, t] })
    (base : Nat) (e : TypeId) (i : TypeInfo) (z : Value) (size bytes : Nat) (ht : P.underlying t = some (.slice e)) (hi : P.info? e = some i) (hz : i.zero = some z)
    (hsize : i.size = size) (hby : i.bytes = bytes) (hzs : z.cells.size = size) (hsz : 0 < size)
    (v : Value) (n : Nat) (xs : List Value) (us : Array Value) (hown : w.ownsRow base e size v n xs) (hbase : base ≤ w.heap.size) (hs : a.eval s = v) (hx : a.eval x = .slice (some ⟨w.heap.size, 0, none⟩) 1 1)
    (hus : us.size = size) (h1 : ∀ u ∈ us.toList, u.oneCell' = true) (hn : n ≤ 1000) (hb : bytes ≤ 1000)
    (h : ∀ v' w', w'.ownsRow base e size v' (n + 1) (xs ++ us.toList) → Only (fun k => v.ownBlock = some k) w w' → (v'.ownBlock = v.ownBlock ∨ ∀ k, v'.ownBlock = some k → w.heap.size ≤ k) → wpList P ops Q rest (a.put o.dst v') w') :
    wpList P ops Q (o :: rest) a (w.alloc (.cells us e)) := by
  refine wpList_plain hgd fun _ hK => ?_
  have hadd : ∀ j, (⟨w.heap.size, 0, none⟩ : Addr).add j = ⟨w.heap.size, j, none⟩ := fun j => by unfold Addr.add; split <;> simp_all
  have hl : us.toList.length = 1 * size := by rw [Array.length_toList, hus, Nat.one_mul]
  have hnews : ∀ j u, us.toList[j]? = some u → (w.alloc (.cells us e)).cell? ((⟨w.heap.size, 0, none⟩ : Addr).add j) = some u := fun j u hj => by
    rw [hadd j, cell_of_row _ _ _ _ _ _ (heap_alloc_new w _)]
    simpa using hj
  have hown2 := hown.alloc (.cells us e)
  obtain ⟨v', w', hr, h2, h3, _⟩ := run_append_own (P := P) _ base t o.type e i z size bytes ht hi hz hsize hby hzs hsz v n xs hown2 ⟨w.heap.size, 0, none⟩ 1 1 us.toList hl hnews h1 (by unfold maxLen; omega) (Nat.le_trans (Nat.mul_le_mul (show n + 1 ≤ 1001 by omega) hb) (by decide)) (by simp; omega)
  have hwh := append_where (P := P) base t o.type e i z size bytes ht hi hz hsize hby v n xs hown2 ⟨w.heap.size, 0, none⟩ 1 us.toList hl hnews h1 hn hb hr
  unfold Oper.wp execOp
  simp only [ho, resolve, invoke, builtin, Sem.run_bind, Sem.run_pure, Result.andThen_ok, List.map_toArray, List.map_cons, List.map_nil, hs, hx, hr]
  refine hK _ _ (h v' w' h2 ((Only.alloc _ w _).trans (Only.of_grown h3)) (hwh.imp id (fun h k hk => ?_)))
  have := h k hk
  simp at this
  omega
end
end
/-! calls, the landed: whole, own. -/
section
open Go.RowKit Go
attribute [local go_sem] Oper.semAt_some

/-- A slice lies where another one lay, or where nothing lay. -/
def Whr (w : World) (v u : Value) : Prop := u.ownBlock = v.ownBlock ∨ ∀ k, u.ownBlock = some k → w.heap.size ≤ k
theorem whr_trans {w wr w3 : World} {v u t : Value} (h1 : Only (fun k => v.ownBlock = some k) w wr) (g1 : Whr w v u) (h2 : Only (fun k => u.ownBlock = some k) wr w3) (g2 : Whr wr u t) : Only (fun k => v.ownBlock = some k) w w3 ∧ Whr w v t := by
  refine ⟨⟨h2.os.trans h1.os, h2.tape.trans h1.tape, h2.output.trans h1.output, Nat.le_trans h1.size h2.size, fun k hk hn => ?_⟩, ?_⟩
  · rw [h2.block k (Nat.lt_of_lt_of_le hk h1.size) (fun e => ?_), h1.block k hk hn]
    rcases g1 with g1 | g1
    · exact hn (g1 ▸ e)
    · have := g1 k e
      omega
  · rcases g2 with g2 | g2
    · rcases g1 with g1 | g1
      · exact .inl (g2.trans g1)
      · exact .inr (fun k hk => g1 k (g2 ▸ hk))
    · exact .inr (fun k hk => Nat.le_trans h1.size (g2 k hk))
def WholeP (base n : Nat) (L : List UInt8) (v : Value) (w : World) (e : Ending) (w' : World) : Prop := ∃ u, e = .returned u ∧ BytAt base (L ++ wordL n) u w' ∧ Below base w w' ∧ Only (fun k => v.ownBlock = some k) w w' ∧ Whr w v u

set_option maxRecDepth 100000 in
set_option maxHeartbeats 8000000 in
theorem whole_any {base : Nat} {L : List UInt8} {v : Value} {n : Nat} {w : World} (hV : BytAt base L v w) (hb : base ≤ w.heap.size) (hL : L.length ≤ 900) (hn : n < 18446744073709551616) : Calls Tryd.prog 31 #[v, .int .u64 (n : Int)] w (WholeP base n L v w) := by
  obtain ⟨i0, hi, hz0, hz1, hz2⟩ := info_parts infoByte
  have H0 := Lib.hid (show BytAt base (L ++ (wordL n).take 0) v w from by rw [List.take_zero, List.append_nil]; exact hV)
  have HN := Lib.hid hn
  have HBB := Lib.hid hb
  have HLL := Lib.hid hL
  have HB0 := Lib.hid (Below.refl base w)
  have HO0 := Lib.hid (show Only (fun k => v.ownBlock = some k) w w ∧ Whr w v v from ⟨Only.refl _ _, .inl rfl⟩)
  clear hn hb hL hV
  go_enter Tryd.func31, Tryd.ntmps31
  go_wp2_with (fail)
  go_loopw [0, 6] (fun bv iv wr => ∃ i : Nat, iv = .int .i64 i ∧ i ≤ 8 ∧ Hid (BytAt base (L ++ (wordL n).take i) bv wr) ∧ Hid (Below base w wr) ∧ Hid (Only (fun k => v.ownBlock = some k) w wr ∧ Whr w v bv)) (fun _ iv _ => 8 - (intOf iv).toNat)
  case atStart => exact ⟨0, rfl, by decide, H0, HB0, HO0⟩
  case round =>
    clear H0 HB0 HO0
    obtain ⟨i, rfl, hi8, HW, HB, HO⟩ := hrel
    by_cases hlt : i < 8
    · have HT := Lib.hid (show L ++ (wordL n).take (i + 1) = (L ++ (wordL n).take i) ++ [UInt8.ofNat (n / 256 ^ i)] from by rw [word_take (n := n) hlt, List.append_assoc])
      have HL := Lib.hid (show (L ++ (wordL n).take i).length = L.length + i from by rw [List.length_append, List.length_take, wordL_len]; omega)
      have HS := Lib.hid (show w.heap.size ≤ wr.heap.size from HB.out.size)
      generalize L ++ (wordL n).take i = T at *
      obtain ⟨ua, uc, hu, hu2⟩ := owns_slice HW.out
      subst hu
      clear hi8 hu2
      rcases (show i = 0 ∨ i = 1 ∨ i = 2 ∨ i = 3 ∨ i = 4 ∨ i = 5 ∨ i = 6 ∨ i = 7 by omega) with rfl | rfl | rfl | rfl | rfl | rfl | rfl | rfl
      · clear hlt
        go_wp2_with (first | (at_builtin; refine wpList_append_where wr rfl _ _ 27 rfl base 5 i0 _ 1 1 Tryd.underlying27 hi hz0 hz1 hz2 rfl (by decide) _ _ _ #[.int .u8 ((n : Int) % 256)] HW.out (Nat.le_trans HBB.out HS.out) rfl rfl rfl (one_cell _ _) (by rw [HL.out]; have := HLL.out; omega) (by decide) ?_; intro v3 w3 hown3 ho3 hh3) | fail)
        have HW3 := Lib.hid (show BytAt base (L ++ (wordL n).take (0 + 1)) v3 w3 from by
          rw [HT.out]
          refine BytAt.more (M := [UInt8.ofNat (n / 256 ^ 0)]) ?_
          have e : bvs [UInt8.ofNat (n / 256 ^ 0)] = (#[Value.int .u8 ((n : Int) % 256)] : Array Value).toList := by
            simp [bvs]
          rw [e]
          exact hown3)
        have HB3 := Lib.hid (ho3.below HB.out (Nat.le_trans HBB.out HS.out) (fun k hk => (HW.out.lt k hk).1))
        have HO3 := Lib.hid (whr_trans HO.out.1 HO.out.2 ho3 hh3)
        clear hown3 ho3 hh3 HB HW HO
        go_wp2_with (fail)
        go_roundw
        case rel => exact ⟨1, rfl, by decide, HW3, HB3, HO3⟩
        case measure => simp [intOf]
      · clear hlt
        go_wp2_with (first | (at_builtin; refine wpList_append_where wr rfl _ _ 27 rfl base 5 i0 _ 1 1 Tryd.underlying27 hi hz0 hz1 hz2 rfl (by decide) _ _ _ #[.int .u8 ((n : Int) / 256 % 256)] HW.out (Nat.le_trans HBB.out HS.out) rfl rfl rfl (one_cell _ _) (by rw [HL.out]; have := HLL.out; omega) (by decide) ?_; intro v3 w3 hown3 ho3 hh3) | fail)
        have HW3 := Lib.hid (show BytAt base (L ++ (wordL n).take (1 + 1)) v3 w3 from by
          rw [HT.out]
          refine BytAt.more (M := [UInt8.ofNat (n / 256 ^ 1)]) ?_
          have e : bvs [UInt8.ofNat (n / 256 ^ 1)] = (#[Value.int .u8 ((n : Int) / 256 % 256)] : Array Value).toList := by
            simp [bvs]
          rw [e]
          exact hown3)
        have HB3 := Lib.hid (ho3.below HB.out (Nat.le_trans HBB.out HS.out) (fun k hk => (HW.out.lt k hk).1))
        have HO3 := Lib.hid (whr_trans HO.out.1 HO.out.2 ho3 hh3)
        clear hown3 ho3 hh3 HB HW HO
        go_wp2_with (fail)
        go_roundw
        case rel => exact ⟨2, rfl, by decide, HW3, HB3, HO3⟩
        case measure => simp [intOf]
      · clear hlt
        go_wp2_with (first | (at_builtin; refine wpList_append_where wr rfl _ _ 27 rfl base 5 i0 _ 1 1 Tryd.underlying27 hi hz0 hz1 hz2 rfl (by decide) _ _ _ #[.int .u8 ((n : Int) / 65536 % 256)] HW.out (Nat.le_trans HBB.out HS.out) rfl rfl rfl (one_cell _ _) (by rw [HL.out]; have := HLL.out; omega) (by decide) ?_; intro v3 w3 hown3 ho3 hh3) | fail)
        have HW3 := Lib.hid (show BytAt base (L ++ (wordL n).take (2 + 1)) v3 w3 from by
          rw [HT.out]
          refine BytAt.more (M := [UInt8.ofNat (n / 256 ^ 2)]) ?_
          have e : bvs [UInt8.ofNat (n / 256 ^ 2)] = (#[Value.int .u8 ((n : Int) / 65536 % 256)] : Array Value).toList := by
            simp [bvs]
          rw [e]
          exact hown3)
        have HB3 := Lib.hid (ho3.below HB.out (Nat.le_trans HBB.out HS.out) (fun k hk => (HW.out.lt k hk).1))
        have HO3 := Lib.hid (whr_trans HO.out.1 HO.out.2 ho3 hh3)
        clear hown3 ho3 hh3 HB HW HO
        go_wp2_with (fail)
        go_roundw
        case rel => exact ⟨3, rfl, by decide, HW3, HB3, HO3⟩
        case measure => simp [intOf]
      · clear hlt
        go_wp2_with (first | (at_builtin; refine wpList_append_where wr rfl _ _ 27 rfl base 5 i0 _ 1 1 Tryd.underlying27 hi hz0 hz1 hz2 rfl (by decide) _ _ _ #[.int .u8 ((n : Int) / 16777216 % 256)] HW.out (Nat.le_trans HBB.out HS.out) rfl rfl rfl (one_cell _ _) (by rw [HL.out]; have := HLL.out; omega) (by decide) ?_; intro v3 w3 hown3 ho3 hh3) | fail)
        have HW3 := Lib.hid (show BytAt base (L ++ (wordL n).take (3 + 1)) v3 w3 from by
          rw [HT.out]
          refine BytAt.more (M := [UInt8.ofNat (n / 256 ^ 3)]) ?_
          have e : bvs [UInt8.ofNat (n / 256 ^ 3)] = (#[Value.int .u8 ((n : Int) / 16777216 % 256)] : Array Value).toList := by
            simp [bvs]
          rw [e]
          exact hown3)
        have HB3 := Lib.hid (ho3.below HB.out (Nat.le_trans HBB.out HS.out) (fun k hk => (HW.out.lt k hk).1))
        have HO3 := Lib.hid (whr_trans HO.out.1 HO.out.2 ho3 hh3)
        clear hown3 ho3 hh3 HB HW HO
        go_wp2_with (fail)
        go_roundw
        case rel => exact ⟨4, rfl, by decide, HW3, HB3, HO3⟩
        case measure => simp [intOf]
      · clear hlt
        go_wp2_with (first | (at_builtin; refine wpList_append_where wr rfl _ _ 27 rfl base 5 i0 _ 1 1 Tryd.underlying27 hi hz0 hz1 hz2 rfl (by decide) _ _ _ #[.int .u8 ((n : Int) / 4294967296 % 256)] HW.out (Nat.le_trans HBB.out HS.out) rfl rfl rfl (one_cell _ _) (by rw [HL.out]; have := HLL.out; omega) (by decide) ?_; intro v3 w3 hown3 ho3 hh3) | fail)
        have HW3 := Lib.hid (show BytAt base (L ++ (wordL n).take (4 + 1)) v3 w3 from by
          rw [HT.out]
          refine BytAt.more (M := [UInt8.ofNat (n / 256 ^ 4)]) ?_
          have e : bvs [UInt8.ofNat (n / 256 ^ 4)] = (#[Value.int .u8 ((n : Int) / 4294967296 % 256)] : Array Value).toList := by
            simp [bvs]
          rw [e]
          exact hown3)
        have HB3 := Lib.hid (ho3.below HB.out (Nat.le_trans HBB.out HS.out) (fun k hk => (HW.out.lt k hk).1))
        have HO3 := Lib.hid (whr_trans HO.out.1 HO.out.2 ho3 hh3)
        clear hown3 ho3 hh3 HB HW HO
        go_wp2_with (fail)
        go_roundw
        case rel => exact ⟨5, rfl, by decide, HW3, HB3, HO3⟩
        case measure => simp [intOf]
      · clear hlt
        go_wp2_with (first | (at_builtin; refine wpList_append_where wr rfl _ _ 27 rfl base 5 i0 _ 1 1 Tryd.underlying27 hi hz0 hz1 hz2 rfl (by decide) _ _ _ #[.int .u8 ((n : Int) / 1099511627776 % 256)] HW.out (Nat.le_trans HBB.out HS.out) rfl rfl rfl (one_cell _ _) (by rw [HL.out]; have := HLL.out; omega) (by decide) ?_; intro v3 w3 hown3 ho3 hh3) | fail)
        have HW3 := Lib.hid (show BytAt base (L ++ (wordL n).take (5 + 1)) v3 w3 from by
          rw [HT.out]
          refine BytAt.more (M := [UInt8.ofNat (n / 256 ^ 5)]) ?_
          have e : bvs [UInt8.ofNat (n / 256 ^ 5)] = (#[Value.int .u8 ((n : Int) / 1099511627776 % 256)] : Array Value).toList := by
            simp [bvs]
          rw [e]
          exact hown3)
        have HB3 := Lib.hid (ho3.below HB.out (Nat.le_trans HBB.out HS.out) (fun k hk => (HW.out.lt k hk).1))
        have HO3 := Lib.hid (whr_trans HO.out.1 HO.out.2 ho3 hh3)
        clear hown3 ho3 hh3 HB HW HO
        go_wp2_with (fail)
        go_roundw
        case rel => exact ⟨6, rfl, by decide, HW3, HB3, HO3⟩
        case measure => simp [intOf]
      · clear hlt
        go_wp2_with (first | (at_builtin; refine wpList_append_where wr rfl _ _ 27 rfl base 5 i0 _ 1 1 Tryd.underlying27 hi hz0 hz1 hz2 rfl (by decide) _ _ _ #[.int .u8 ((n : Int) / 281474976710656 % 256)] HW.out (Nat.le_trans HBB.out HS.out) rfl rfl rfl (one_cell _ _) (by rw [HL.out]; have := HLL.out; omega) (by decide) ?_; intro v3 w3 hown3 ho3 hh3) | fail)
        have HW3 := Lib.hid (show BytAt base (L ++ (wordL n).take (6 + 1)) v3 w3 from by
          rw [HT.out]
          refine BytAt.more (M := [UInt8.ofNat (n / 256 ^ 6)]) ?_
          have e : bvs [UInt8.ofNat (n / 256 ^ 6)] = (#[Value.int .u8 ((n : Int) / 281474976710656 % 256)] : Array Value).toList := by
            simp [bvs]
          rw [e]
          exact hown3)
        have HB3 := Lib.hid (ho3.below HB.out (Nat.le_trans HBB.out HS.out) (fun k hk => (HW.out.lt k hk).1))
        have HO3 := Lib.hid (whr_trans HO.out.1 HO.out.2 ho3 hh3)
        clear hown3 ho3 hh3 HB HW HO
        go_wp2_with (fail)
        go_roundw
        case rel => exact ⟨7, rfl, by decide, HW3, HB3, HO3⟩
        case measure => simp [intOf]
      · clear hlt
        go_wp2_with (first | (at_builtin; refine wpList_append_where wr rfl _ _ 27 rfl base 5 i0 _ 1 1 Tryd.underlying27 hi hz0 hz1 hz2 rfl (by decide) _ _ _ #[.int .u8 ((n : Int) / 72057594037927936 % 256)] HW.out (Nat.le_trans HBB.out HS.out) rfl rfl rfl (one_cell _ _) (by rw [HL.out]; have := HLL.out; omega) (by decide) ?_; intro v3 w3 hown3 ho3 hh3) | fail)
        have HW3 := Lib.hid (show BytAt base (L ++ (wordL n).take (7 + 1)) v3 w3 from by
          rw [HT.out]
          refine BytAt.more (M := [UInt8.ofNat (n / 256 ^ 7)]) ?_
          have e : bvs [UInt8.ofNat (n / 256 ^ 7)] = (#[Value.int .u8 ((n : Int) / 72057594037927936 % 256)] : Array Value).toList := by
            simp [bvs]
          rw [e]
          exact hown3)
        have HB3 := Lib.hid (ho3.below HB.out (Nat.le_trans HBB.out HS.out) (fun k hk => (HW.out.lt k hk).1))
        have HO3 := Lib.hid (whr_trans HO.out.1 HO.out.2 ho3 hh3)
        clear hown3 ho3 hh3 HB HW HO
        go_wp2_with (fail)
        go_roundw
        case rel => exact ⟨8, rfl, by decide, HW3, HB3, HO3⟩
        case measure => simp [intOf]
    · obtain rfl : i = 8 := by omega
      have HW2 := Lib.hid (show BytAt base (L ++ wordL n) u0 wr from by have h := HW.out; rwa [List.take_of_length_le (by rw [wordL_len]; decide)] at h)
      clear HW
      go_wp2_with (fail)
      go_ret
      exact ⟨_, rfl, HW2.out, HB.out, HO.out⟩
end
/-! calls, the landed: Bytes, own. -/
section
open Go.RowKit Go
attribute [local go_sem] Oper.semAt_some

/-- The first p numbers of a form, behind its kind's. -/
def preL (q : CallM) (n p : Nat) : List UInt8 := wordL q.kind ++ ((letK q.kind).take p).flatMap (fun l => wordL (fldC q n l))
theorem preL_zero (q : CallM) (n : Nat) : preL q n 0 = [] ++ wordL q.kind := by
  unfold preL
  simp
theorem preL_succ {q : CallM} {n p l : Nat} (h : (letK q.kind)[p]? = some l) : preL q n (p + 1) = preL q n p ++ wordL (fldC q n l) := by
  unfold preL
  rw [List.take_add_one, h]
  simp
theorem flat_le (f : Nat → Nat) (L : List Nat) : (L.flatMap (fun l => wordL (f l))).length = 8 * L.length := by
  induction L with
  | nil => rfl
  | cons v L ih => rw [List.flatMap_cons, List.length_append, wordL_len, ih, List.length_cons]; omega
theorem preL_len (q : CallM) (n p : Nat) : (preL q n p).length ≤ 48 := by
  unfold preL
  rw [List.length_append, wordL_len, flat_le, List.length_take]
  have := letK_len q.kind
  omega
theorem preL_all {q : CallM} {n : Nat} (x : Nat → UInt8) (h : hasK q.kind = true ∨ n = 0) : preL q n (letK q.kind).length ++ lisX x n = callL q x n := by
  rw [callL_flat]
  unfold preL nsL
  rw [← ns_let, List.take_length, List.flatMap_cons, List.flatMap_map]
  congr 1
  by_cases hh : hasK q.kind = true
  · rw [if_pos hh]
  · rw [if_neg hh, h.resolve_left hh]
    rfl
theorem fldC_lt {q : CallM} {n : Nat} (h : q.Ok) (hn : n ≤ 2100) (l : Nat) : fldC q n l < 18446744073709551616 := by
  have h1 := h.rights
  have h2 := h.pk
  have h3 := h.pm
  have h4 := h.handle
  have u := uI_lt
  unfold fldC
  repeat' split
  all_goals first | exact u _ | omega
theorem lt_letter {L : List Nat} {p l : Nat} (h : L[p]? = some l) : p < L.length := (List.getElem?_eq_some_iff.1 h).1
theorem letK_may {q : CallM} {n : Nat} (h : mayC q n = true) : okK q.kind = true ∧ n ≤ 8 ∧ (hasK q.kind = true ∨ n = 0) := ⟨(mayC_parts h).1, (mayC_parts h).2.1, (mayC_parts h).2.2.1⟩
set_option maxRecDepth 100000 in
set_option maxHeartbeats 8000000 in
theorem kbytes_any {q : CallM} {n : Nat} (hq : KIn q n) {a : Option Addr} {c : Nat} {x : Nat → UInt8} {w : World} (hF : FldAt w) (S : Src w a n x) : Calls Tryd.prog 12 #[.agg (q.cells a n c)] w (ByP w (mayC q n) (callL q x n)) := by
  obtain ⟨i0, hi0, hz0, hz1, hz2⟩ := info_parts infoByte
  have hb1 := call_box w q a n c
  have HB := Lib.hid hb1
  have HC := Lib.hid (CallAt.new w q a n c)
  have HF := Lib.hid (hF.later hb1)
  have HS := Lib.hid S
  have HN := Lib.hid (NumOk.of hq)
  have HM := Lib.hid (fun V (hV : FldAt V) => kmay_any (NumOk.of hq) hq.ok.kind a c hV)
  have HE := Lib.hid (may_eq hq)
  have HLT := Lib.hid (fun l => fldC_lt (n := n) hq.ok (by have := hq.n; omega) l)
  have HKK := Lib.hid (show q.kind < 18446744073709551616 by have := hq.ok.kind; omega)
  have HCV := Lib.hid (show IntKind.u64.wrap (q.kind : Int) = q.kind from u64_nat (by have := hq.ok.kind; omega))
  have HPL := Lib.hid (fun p => preL_len q n p)
  have hbs : (w.alloc (.cells (q.cells a n c) 29)).heap.size = w.heap.size + 1 := by simp
  have HBS := Lib.hid hbs
  clear hbs hb1 hF S hq
  go_enter Tryd.func12, Tryd.ntmps12
  go_wp2_with (first | (refine wpList_load_call rfl (.tmp 1) rfl w.heap.size rfl HC.out ?_) | fail)
  generalize w.alloc (.cells (q.cells a n c) 29) = w1 at *
  refine (HM.out _ HF.out).mono ?_
  rintro e w2 ⟨rfl, hb2⟩
  rw [HE.out]
  have HB2 := Lib.hid (HB.out.trans (hb2.mono HB.out.size))
  have HC2 := Lib.hid (HC.out.later hb2)
  have HF2 := Lib.hid (HF.out.later hb2)
  have HZ := Lib.hid (show w.heap.size < w2.heap.size by have := hb2.size; have := HBS.out; omega)
  clear hb2 HC HF HB HM HE
  cases hm : mayC q n with
  | false =>
    have HMM := Lib.hid hm
    clear hm
    go_wp2_with (fail)
    go_ret2
    exact .inr ⟨HMM.out, none, 0, rfl, HB2.out⟩
  | true =>
    obtain ⟨hok, hn8, hh⟩ := letK_may hm
    have HALL := Lib.hid (preL_all x hh)
    have HN8 := Lib.hid hn8
    have HMM := Lib.hid hm
    have k0 := HC2.out.cell 0 (v := .int .u8 (q.kind : Int)) rfl
    have hcv := HCV.out
    have hk22 : q.kind < 22 := by have := of_decide_eq_true hok; omega
    have HFK := Lib.hid (HF2.out q.kind hk22)
    have hk22I : (q.kind : Int) < 22 := by omega
    clear hm hok hn8 hh hk22
    go_wp2_with (fail)
    refine (whole_any (base := w2.heap.size) (L := []) (w := w2) (World.ownsRow_nil _ _ _ _) (Nat.le_refl _) (by decide) HKK.out).mono ?_
    rintro e w3 ⟨v3, rfl, h3, hb3, -, -⟩
    have HV3 := Lib.hid (show BytAt w2.heap.size (preL q n 0) v3 w3 from by rw [preL_zero]; exact h3)
    have HB3 := Lib.hid hb3
    have k0 := (HC2.out.later hb3).cell 0 (v := .int .u8 (q.kind : Int)) rfl
    have kf : w3.cell? ⟨0, q.kind, none⟩ = some (.string (strN (letK q.kind))) := by rw [hb3.cell (World.block_lt_of_cell? _ _ HFK.out)]; exact HFK.out
    have HI0 := Lib.hid (IterAt.new w3 (strN (letK q.kind)))
    have HW3 := Lib.hid (iter_below w3 (strN (letK q.kind)))
    have HZ3 := Lib.hid (show w2.heap.size ≤ w3.heap.size from hb3.size)
    have HX := Lib.hid (show ∀ k, v3.ownBlock = some k → k ≠ w3.heap.size from fun k hk => by have := (h3.lt k hk).2; omega)
    have HLK := Lib.hid (letK_lt q.kind)
    have HLA := Lib.hid (letK_all q.kind)
    have HPS := Lib.hid (fun p l (h : (letK q.kind)[p]? = some l) => preL_succ (n := n) h)
    clear h3 hb3 hcv
    generalize hK : q.kind = kd at *
    clear hK
    generalize letK kd = LK at *
    go_wp2_with (fail)
    have HV4 := Lib.hid (HV3.out.later HW3.out)
    have HB4 := Lib.hid (HB3.out.trans (HW3.out.mono HB3.out.size))
    generalize w3.iter (strN LK) 0 = wi at *
    clear HV3 HB3 HW3 k0 kf
    generalize w3.heap.size = ib at *
    go_loopw [4] (fun bv wr => ∃ p : Nat, p ≤ LK.length ∧ Hid (IterAt wr ib (strN LK) p) ∧ Hid (BytAt w2.heap.size (preL q n p) bv wr) ∧ Hid (∀ k, bv.ownBlock = some k → k ≠ ib) ∧ Hid (Below w2.heap.size w2 wr)) (fun _ wr => LK.length - wr.iterPos ib)
    case atStart => exact ⟨0, Nat.zero_le _, HI0, HV4, HX, HB4⟩
    case round =>
      clear HI0 HV4 HX HB4
      obtain ⟨p, hp, HI, HV, HX, HB⟩ := hrel
      by_cases hlt : p < LK.length
      · obtain ⟨l, hl⟩ := at_letter hlt
        have HLT2 := Lib.hid hlt
        have HI0r := Lib.hid HI.out
        have HL := Lib.hid hl
        have HM := Lib.hid (List.mem_of_getElem? hl)
        have HNL := Lib.hid (fun V => number_l HN.out a c (HLA.out l HM.out) V)
        clear hlt hp hl
        go_wp2_with (first | (refine wpList_next_more wr rfl _ rfl ib LK HLK.out p l HL.out rfl HI.out ?_; intro w4 hi4 ho4 hs4; have HI4 := Lib.hid hi4; have HB4 := Lib.hid (ho4.below HB.out HB.out.size (fun k hk => by have := HZ3.out; omega)); have HV4 := Lib.hid (HV.out.only ho4 (fun k hk e => HX.out k hk e)); have HC4 := Lib.hid (HC2.out.later HB4.out); clear hi4 ho4 hs4 HI HV HB) | (refine wpList_load_call rfl (.tmp 1) rfl w.heap.size rfl HC4.out ?_) | fail)
        refine (HNL.out _).mono ?_
        rintro e w5 ⟨rfl, hb5⟩
        have HI5 := Lib.hid (HI4.out.later hb5)
        have HV5 := Lib.hid (HV4.out.later hb5)
        have HB5 := Lib.hid (HB4.out.trans (hb5.mono HB4.out.size))
        clear hb5 HI4 HV4 HB4 HC4 HNL
        go_wp2_with (fail)
        refine (whole_any HV5.out HB5.out.size (by have := HPL.out p; omega) (HLT.out l)).mono ?_
        rintro e w6 ⟨v6, rfl, h6, hb6, ho6, hw6⟩
        have HV6 := Lib.hid (show BytAt w2.heap.size (preL q n (p + 1)) v6 w6 from by rw [HPS.out p l HL.out]; exact h6)
        have HB6 := Lib.hid (HB5.out.trans hb6)
        have HI6 := Lib.hid (HI5.out.only ho6 (fun e => HX.out _ e rfl))
        have HX6 := Lib.hid (show ∀ k, v6.ownBlock = some k → k ≠ ib from fun k hk => by
          rcases hw6 with hw6 | hw6
          · exact HX.out k (hw6 ▸ hk)
          · have := hw6 k hk
            have := HI5.out.lt
            omega)
        clear h6 hb6 ho6 hw6 HV5 HB5 HX
        go_wp2_with (fail)
        go_roundw
        case rel => exact ⟨p + 1, HLT2.out, HI6, HV6, HX6, HB6⟩
        case measure => exact iter_left HI0r.out HI6.out (Nat.lt_succ_self _) HLT2.out
      · obtain rfl : p = LK.length := by omega
        clear hlt hp
        have k11 := (HC2.out.later HB.out).cell 11 (v := .slice a n c) rfl
        obtain ⟨ua, uc, hu, hu2⟩ := owns_slice HV.out
        have HGL := Lib.hid (HPL.out LK.length)
        have HSr := Lib.hid (HS.out.later (HB2.out.trans (HB.out.mono (Nat.le_of_lt HZ.out))))
        subst hu
        clear hu2
        go_wp2_with (first | (refine wpList_next_end wr rfl _ rfl ib LK rfl HI.out ?_) | (at_builtin; refine wpList_append_src wr rfl _ _ 27 rfl w2.heap.size 5 i0 _ 1 1 Tryd.underlying27 hi0 hz0 hz1 hz2 rfl (by decide) _ _ _ rfl HV.out a n c (bytL n x) rfl (by rw [bytL_len]; omega) HSr.out.cells (bytL_one _ _) (by have := HGL.out; have := HN8.out; unfold maxLen; omega) (by have := HGL.out; have := HN8.out; omega) HB.out.size ?_; intro v6 W6 hown6 hg6 _) | fail)
        have ho6 : Only (fun k => (Value.slice ua (preL q n LK.length).length uc).ownBlock = some k) wr W6 := Only.of_grown hg6
        have HB6 := Lib.hid (ho6.below HB.out HB.out.size (fun k hk => (HV.out.lt k hk).1))
        have HV6 := Lib.hid (show BytAt w2.heap.size (callL q x n) v6 W6 from by
          rw [← HALL.out]
          refine BytAt.more ?_
          rw [bvs_lisX, lisX_len]
          exact hown6)
        clear hown6 hg6 ho6
        go_ret2
        exact .inl ⟨HMM.out, _, rfl, HV6.out.low (Nat.le_of_lt HZ.out), HB2.out.trans (HB6.out.mono (Nat.le_of_lt HZ.out))⟩
end
/-! calls, the landed: what is read number by number, and whether it is a form. Pure. -/
section
open Go Go.RowKit

/-- What next tells at a place: nothing where eight bytes aren't there. -/
def numQ (x : Nat → UInt8) (n p : Nat) : Nat := if p + 8 ≤ n then numX x n p else 0
theorem numQ_lt (x : Nat → UInt8) (n p : Nat) : numQ x n p < 18446744073709551616 := by
  unfold numQ
  split
  · exact numX_lt x n p
  · decide
theorem numX_sh (x : Nat → UInt8) (n k : Nat) : numX (shX x k) (n - k) 0 = numX x n k := by
  unfold numX
  refine numT_ext (fun i hi => ?_) 8 (Nat.le_refl _)
  unfold numF shX
  by_cases h : k + i < n
  · rw [if_pos h, if_pos (by omega), Nat.zero_add]
  · rw [if_neg h, if_neg (by omega)]
/-- A call of a kind, j numbers of it read. -/
def recQ (k : Nat) (x : Nat → UInt8) (n j : Nat) : CallM := ofN k fun i => if i < j then numQ x n (8 + 8 * i) else 0
theorem rec_zero (k : Nat) (x : Nat → UInt8) (n : Nat) : recQ k x n 0 = q0 k := by
  have h : wrap64 (0 : Int) = 0 := by
    unfold wrap64
    omega
  unfold recQ ofN q0
  split <;> first | rfl | simp [h]
set_option maxHeartbeats 4000000 in
theorem rec_step {k : Nat} {x : Nat → UInt8} {n j l : Nat} (h : (letK k)[j]? = some l) : putC (recQ k x n j) l (numQ x n (8 + 8 * j)) = recQ k x n (j + 1) := by
  have h5 := letK_len k
  have hj := lt_letter h
  rcases (show j = 0 ∨ j = 1 ∨ j = 2 ∨ j = 3 ∨ j = 4 by omega) with rfl | rfl | rfl | rfl | rfl
  all_goals
    clear hj h5
    unfold letK at h
    split at h
  all_goals first | (exfalso; simp at h; done) | (simp at h; subst h; simp [recQ, ofN, putC])
theorem letK_lenK (k : Nat) : (letK k).length = lenK k + if hasK k then 1 else 0 := by
  have h := congrArg List.length (ns_let (q0 k) 0)
  rw [List.length_map, List.length_append, listN_len] at h
  have hk : (q0 k).kind = k := rfl
  rw [hk] at h
  rw [h]
  split <;> rfl
theorem ofN_ext {k : Nat} {g f : Nat → Nat} (h : ∀ i, i < lenK k → g i = f i) : ofN k g = ofN k f := by
  have h0 := h 0
  have h1 := h 1
  have h2 := h 2
  have h3 := h 3
  have h4 := h 4
  clear h
  unfold lenK at h0 h1 h2 h3 h4
  unfold ofN
  split
  all_goals simp at h0 h1 h2 h3 h4
  all_goals simp [*]
theorem numX_ext {x y : Nat → UInt8} {n : Nat} (h : ∀ i, i < n → x i = y i) (p : Nat) : numX x n p = numX y n p := by
  unfold numX
  refine numT_ext (fun i hi => ?_) 8 (Nat.le_refl _)
  unfold numF
  split
  · rw [h _ (by assumption)]
  · rfl
theorem qX_ext {x y : Nat → UInt8} {n : Nat} (h : ∀ i, i < n → x i = y i) (k : Nat) : qX x n k = qX y n k := by
  unfold qX rdL
  simp only [numX_ext h]
theorem mT_in {k n j : Nat} (h : j < mT k n) : atK k + 8 + j < n := by
  unfold mT at h
  split at h <;> omega
theorem okC_ext {x y : Nat → UInt8} {n : Nat} (h : ∀ i, i < n → x i = y i) : okC x n = okC y n := by
  unfold okC
  rw [numX_ext h, qX_ext h]
  have e1 : callL (qX y n (numX y n 0)) (shX x (atK (numX y n 0) + 8)) (mT (numX y n 0) n) = callL (qX y n (numX y n 0)) (shX y (atK (numX y n 0) + 8)) (mT (numX y n 0) n) :=
    callL_ext fun j hj => h _ (mT_in hj)
  rw [e1]
  congr 3
  rw [Bool.eq_iff_iff]
  unfold strL
  rw [beq_strB, beq_strB, lisX_ext h]
/-- The kind that is read. -/
def kdQ (x : Nat → UInt8) (n : Nat) : Nat := numQ x n 0 % 256
def recA (x : Nat → UInt8) (n : Nat) : CallM := recQ (kdQ x n) x n (letK (kdQ x n)).length
def atA (x : Nat → UInt8) (n : Nat) : Nat := 8 * (1 + (letK (kdQ x n)).length)
theorem recA_ok (x : Nat → UInt8) (n : Nat) : (recA x n).Ok := by
  unfold recA recQ
  refine ofN_ok (by unfold kdQ; omega) fun i => ?_
  split
  · exact numQ_lt x n _
  · decide
theorem recA_kind (x : Nat → UInt8) (n : Nat) : (recA x n).kind = kdQ x n := ofN_kind ..
/-- What is a form is read so. -/
theorem okC_rec {x : Nat → UInt8} {n : Nat} (h : okC x n = true) : numX x n 0 = kdQ x n ∧ qX x n (numX x n 0) = recA x n ∧ mT (numX x n 0) n = n - atA x n ∧ ∀ j, j < mT (numX x n 0) n → shX x (atA x n) j = shX x (atK (numX x n 0) + 8) j := by
  obtain ⟨h8, hf, ht⟩ := okC_len h
  have h255 := (okC_parts h).1
  have hk : numX x n 0 = kdQ x n := by
    unfold kdQ numQ
    rw [if_pos (by omega)]
    omega
  rw [hk] at hf ht ⊢
  have hl := letK_lenK (kdQ x n)
  have hq : qX x n (kdQ x n) = recA x n := by
    unfold qX recA recQ
    refine ofN_ext fun i hi => ?_
    rw [rdL_at _ _ _ hi, if_pos hi, if_pos (by omega)]
    unfold numQ
    rw [if_pos]
    cases hh : hasK (kdQ x n) with
    | false => have := hf hh; omega
    | true =>
      have := (ht hh).1
      have := hasK_len hh
      omega
  refine ⟨rfl, hq, ?_, fun j hj => ?_⟩
  · unfold mT hasT atA atK
    rw [hl]
    cases hh : hasK (kdQ x n) with
    | false =>
      have := hf hh
      simp
      omega
    | true =>
      have := (ht hh).1
      have := hasK_len hh
      simp
      split <;> omega
  · unfold mT hasT at hj
    unfold atA atK
    rw [hl]
    cases hh : hasK (kdQ x n) with
    | false => rw [hh] at hj; simp at hj
    | true => rw [if_pos rfl, show 8 * (1 + (lenK (kdQ x n) + 1)) = 8 + 8 * lenK (kdQ x n) + 8 by omega]
theorem ok_rec {x : Nat → UInt8} {n : Nat} : okC x n = true ↔ okK (kdQ x n) = true ∧ mayC (recA x n) (n - atA x n) = true ∧ callL (recA x n) (shX x (atA x n)) (n - atA x n) = lisX x n := by
  constructor
  · intro h
    obtain ⟨h1, h2, h3, h4⟩ := okC_parts h
    obtain ⟨e1, e2, e3, e4⟩ := okC_rec h
    rw [e2, e3] at h3 h4
    rw [e1] at h2
    refine ⟨h2, h3, ?_⟩
    rw [← h4]
    exact callL_ext fun j hj => e4 j (by rw [e3]; exact hj)
  · rintro ⟨hk, hm, hc⟩
    obtain ⟨_, _, _, _, hok⟩ := form_back (recA_ok x n) (x := shX x (atA x n)) hm
    rw [hc, lisX_len] at hok
    rw [← hok]
    exact okC_ext fun i hi => by rw [List.getD_eq_getElem?_getD, lisX_get hi]; rfl
end
/-! calls, the landed: next. -/
section
open Go.RowKit Go
attribute [local go_sem] Oper.semAt_some

/-- A number by its bytes, from the lowest on. -/
def lowF (f : Nat → Nat) : Nat → Nat
  | 0 => 0
  | i + 1 => lowF f i + f i * 256 ^ i
theorem low_all (f : Nat → Nat) : lowF f 8 = numT f 8 := by
  show ((((((((0 + f 0 * 1) + f 1 * 256) + f 2 * 65536) + f 3 * 16777216) + f 4 * 4294967296) + f 5 * 1099511627776) + f 6 * 281474976710656) + f 7 * 72057594037927936) = (((((((0 * 256 + f 7) * 256 + f 6) * 256 + f 5) * 256 + f 4) * 256 + f 3) * 256 + f 2) * 256 + f 1) * 256 + f 0
  omega
theorem low_lt {f : Nat → Nat} (hf : ∀ i, f i < 256) : ∀ i, lowF f i < 256 ^ i
  | 0 => by show 0 < 1; omega
  | i + 1 => by
    have h := low_lt hf i
    have h2 := hf i
    have h3 : f i * 256 ^ i ≤ 255 * 256 ^ i := Nat.mul_le_mul_right _ (by omega)
    rw [Nat.pow_succ]
    unfold lowF
    omega
theorem or_low (a b i : Nat) (ha : a < 256 ^ i) : a ||| b * 256 ^ i = a + b * 256 ^ i := by
  rw [show (256 : Nat) = 2 ^ 8 from rfl, ← Nat.pow_mul] at *
  have := Nat.shiftLeft_add_eq_or_of_lt ha b
  rw [Nat.shiftLeft_eq] at this
  rw [Nat.or_comm, ← this, Nat.add_comm]
theorem or_step {A y : Nat} (i : Nat) (hA : A < 256 ^ i) (hy : y < 256) (hi : i < 8) : bits .or .u64 (A : Int) ((y * 256 ^ i : Nat) : Int) = ((A + y * 256 ^ i : Nat) : Int) := by
  have h1 : 256 ^ i ≤ 256 ^ 7 := Nat.pow_le_pow_right (by decide) (by omega)
  have h2 : (256 : Nat) ^ 7 = 72057594037927936 := by decide
  have h3 : y * 256 ^ i ≤ 255 * 256 ^ i := Nat.mul_le_mul_right _ (by omega)
  rw [u64_or_nat _ _ (by omega) (by omega), or_low A y i hA]
theorem shl_step {y : Nat} (i : Nat) (hy : y < 256) (hi : i < 8) : IntKind.u64.wrap ((y * 256 ^ i : Nat) : Int) = ((y * 256 ^ i : Nat) : Int) := by
  have h1 : 256 ^ i ≤ 256 ^ 7 := Nat.pow_le_pow_right (by decide) (by omega)
  have h2 : (256 : Nat) ^ 7 = 72057594037927936 := by decide
  have h3 : y * 256 ^ i ≤ 255 * 256 ^ i := Nat.mul_le_mul_right _ (by omega)
  exact u64_nat (by omega)
def NextP (w : World) (vb : Nat) (v : Nat) (s : Value) (e : Ending) (w' : World) : Prop := e = .returned (.int .u64 (v : Int)) ∧ RowAt w' vb 1 (fun _ => s) ∧ Only (fun k => k = vb) w w' ∧ w'.heap.size = w.heap.size
/-- Eight bytes are cut off; where no room is left behind them, the address stays. -/
def NextM (w : World) (vb : Nat) (v g o n c : Nat) (e : Ending) (w' : World) : Prop := ∃ o', e = .returned (.int .u64 (v : Int)) ∧ RowAt w' vb 1 (fun _ => .slice (some ⟨g, o', none⟩) (n - 8) (c - 8)) ∧ Only (fun k => k = vb) w w' ∧ w'.heap.size = w.heap.size ∧ (o' = o + 8 ∨ c = 8)

set_option maxRecDepth 100000 in
set_option maxHeartbeats 8000000 in
theorem next_few {w : World} {vb n c : Nat} {a : Option Addr} (hR : RowAt w vb 1 (fun _ => .slice a n c)) (hn : n < 8) : Calls Tryd.prog 41 #[.pointer (some ⟨vb, 0, none⟩)] w (NextP w vb 0 (.slice none 0 0)) := by
  have hnI : (n : Int) < 8 := by omega
  have HO := Lib.hid (Only.setCell (S := fun k => k = vb) w ⟨vb, 0, none⟩ rfl (.slice none 0 0))
  have HC := Lib.hid (show RowAt (w.setCell ⟨vb, 0, none⟩ (.slice none 0 0)) vb 1 (fun _ => (.slice none 0 0)) from (hR.setCell 0 _).ext (fun j hj => by obtain rfl : j = 0 := (by omega); rfl))
  have hv := hR.cell 0 (by decide)
  have hfz := hR.frozen 0
  clear hR
  clear hn
  go_enter Tryd.func41, Tryd.ntmps41
  go_wp2_with (fail)
  go_ret
  exact ⟨rfl, HC.out, HO.out, by simp [World.setCell]⟩

set_option maxRecDepth 100000 in
set_option maxHeartbeats 8000000 in
theorem next_more {w : World} {vb n c g o : Nat} {x : Nat → UInt8} (hR : RowAt w vb 1 (fun _ => .slice (some ⟨g, o, none⟩) n c)) (hn : 8 ≤ n) (hnc : n ≤ c) (S : Src w (some ⟨g, o, none⟩) n x) :
    Calls Tryd.prog 41 #[.pointer (some ⟨vb, 0, none⟩)] w (NextM w vb (numX x n 0) g o n c) := by
  have hnI : ¬ (n : Int) < 8 := by omega
  have hncI : (n : Int) ≤ c := by omega
  have hcI : (8 : Int) ≤ c := by omega
  have HX := Lib.hid (show ∀ j, j < 8 → w.cell? ⟨g, o + j, none⟩ = some (.int .u8 ((x j).toNat : Int)) from fun j hj => by
    obtain ⟨ad, e, hc⟩ := S (by omega)
    injection e with e
    subst e
    have := hc j (by omega)
    rwa [Addr.add_lit] at this)
  have HF := Lib.hid (show ∀ j, j < 8 → numF x n 0 j = (x j).toNat from fun j hj => by unfold numF; rw [if_pos (by omega), Nat.zero_add])
  have HLT := Lib.hid (fun j => numF_lt x n 0 j)
  have HLL := Lib.hid (fun i => low_lt (numF_lt x n 0) i)
  have HAL := Lib.hid (low_all (numF x n 0))
  have HO := Lib.hid (fun s => Only.setCell (S := fun k => k = vb) w ⟨vb, 0, none⟩ rfl s)
  have HC := Lib.hid (show ∀ s, RowAt (w.setCell ⟨vb, 0, none⟩ s) vb 1 (fun _ => s) from fun s => (hR.setCell 0 _).ext (fun j hj => by obtain rfl : j = 0 := (by omega); rfl))
  have hv := hR.cell 0 (by decide)
  have hfz := hR.frozen 0
  clear hR
  have HNX := Lib.hid (show numX x n 0 = numT (numF x n 0) 8 from rfl)
  generalize numX x n 0 = N at *
  generalize numF x n 0 = f at *
  clear hn hnc S
  go_enter Tryd.func41, Tryd.ntmps41
  go_wp2_with (fail)
  go_loopw [3, 18] (fun av iv wr => ∃ (i q : Nat), iv = .int .i64 i ∧ i ≤ 8 ∧ av = .int .u64 q ∧ Hid (q = lowF f i) ∧ wr = w) (fun _ iv _ => 8 - (intOf iv).toNat)
  case atStart => exact ⟨0, 0, rfl, by decide, rfl, Lib.hid rfl, rfl⟩
  case round =>
    obtain ⟨i, q, rfl, hi8, rfl, HQ, hw⟩ := hrel
    have hw := hw.symm
    subst hw
    by_cases hlt : i < 8
    · have cx := HX.out i hlt
      have HFI := Lib.hid (HF.out i hlt)
      have HY := Lib.hid (show (x i).toNat < 256 from (x i).toNat_lt)
      have HQL := Lib.hid (show q < 256 ^ i from by rw [HQ.out]; exact HLL.out i)
      have HQ2 := Lib.hid (show q + (x i).toNat * 256 ^ i = lowF f (i + 1) from by rw [HQ.out, ← HF.out i hlt]; rfl)
      have HOR := Lib.hid (or_step i HQL.out HY.out hlt)
      have HSH := Lib.hid (shl_step i HY.out hlt)
      generalize (x i).toNat = y at *
      clear hi8
      rcases (show i = 0 ∨ i = 1 ∨ i = 2 ∨ i = 3 ∨ i = 4 ∨ i = 5 ∨ i = 6 ∨ i = 7 by omega) with rfl | rfl | rfl | rfl | rfl | rfl | rfl | rfl
      · rw [Nat.add_zero] at cx
        have hor : bits .or .u64 (q : Int) (y : Int) = ((q + y * 256 ^ 0 : Nat) : Int) := by
          have h := HOR.out
          rwa [show y * 256 ^ 0 = y by omega] at h ⊢
        have hsh : IntKind.u64.wrap (y : Int) = (y : Int) := by
          have h := HSH.out
          rwa [show y * 256 ^ 0 = y by omega] at h
        generalize q + y * 256 ^ 0 = q2 at *
        clear hlt
        go_wp2_with (fail)
        go_roundw
        case rel => exact ⟨1, q2, rfl, by decide, rfl, HQ2, trivial⟩
        case measure => simp [intOf]
      · have ey : ((y * 256 ^ 1 : Nat) : Int) = (y : Int) * 256 := by rw [show (256 : Nat) ^ 1 = 256 from rfl]; omega
        have hor : bits .or .u64 (q : Int) ((y : Int) * 256) = ((q + y * 256 ^ 1 : Nat) : Int) := by
          have h := HOR.out
          rwa [ey] at h
        have hsh : IntKind.u64.wrap ((y : Int) * 256) = (y : Int) * 256 := by
          have h := HSH.out
          rwa [ey] at h
        have hy0 : IntKind.u64.wrap (y : Int) = (y : Int) := u64_nat (by have := HY.out; omega)
        clear ey
        generalize q + y * 256 ^ 1 = q2 at *
        clear hlt
        go_wp2_with (fail)
        go_roundw
        case rel => exact ⟨2, q2, rfl, by decide, rfl, HQ2, trivial⟩
        case measure => simp [intOf]
      · have ey : ((y * 256 ^ 2 : Nat) : Int) = (y : Int) * 65536 := by rw [show (256 : Nat) ^ 2 = 65536 from rfl]; omega
        have hor : bits .or .u64 (q : Int) ((y : Int) * 65536) = ((q + y * 256 ^ 2 : Nat) : Int) := by
          have h := HOR.out
          rwa [ey] at h
        have hsh : IntKind.u64.wrap ((y : Int) * 65536) = (y : Int) * 65536 := by
          have h := HSH.out
          rwa [ey] at h
        have hy0 : IntKind.u64.wrap (y : Int) = (y : Int) := u64_nat (by have := HY.out; omega)
        clear ey
        generalize q + y * 256 ^ 2 = q2 at *
        clear hlt
        go_wp2_with (fail)
        go_roundw
        case rel => exact ⟨3, q2, rfl, by decide, rfl, HQ2, trivial⟩
        case measure => simp [intOf]
      · have ey : ((y * 256 ^ 3 : Nat) : Int) = (y : Int) * 16777216 := by rw [show (256 : Nat) ^ 3 = 16777216 from rfl]; omega
        have hor : bits .or .u64 (q : Int) ((y : Int) * 16777216) = ((q + y * 256 ^ 3 : Nat) : Int) := by
          have h := HOR.out
          rwa [ey] at h
        have hsh : IntKind.u64.wrap ((y : Int) * 16777216) = (y : Int) * 16777216 := by
          have h := HSH.out
          rwa [ey] at h
        have hy0 : IntKind.u64.wrap (y : Int) = (y : Int) := u64_nat (by have := HY.out; omega)
        clear ey
        generalize q + y * 256 ^ 3 = q2 at *
        clear hlt
        go_wp2_with (fail)
        go_roundw
        case rel => exact ⟨4, q2, rfl, by decide, rfl, HQ2, trivial⟩
        case measure => simp [intOf]
      · have ey : ((y * 256 ^ 4 : Nat) : Int) = (y : Int) * 4294967296 := by rw [show (256 : Nat) ^ 4 = 4294967296 from rfl]; omega
        have hor : bits .or .u64 (q : Int) ((y : Int) * 4294967296) = ((q + y * 256 ^ 4 : Nat) : Int) := by
          have h := HOR.out
          rwa [ey] at h
        have hsh : IntKind.u64.wrap ((y : Int) * 4294967296) = (y : Int) * 4294967296 := by
          have h := HSH.out
          rwa [ey] at h
        have hy0 : IntKind.u64.wrap (y : Int) = (y : Int) := u64_nat (by have := HY.out; omega)
        clear ey
        generalize q + y * 256 ^ 4 = q2 at *
        clear hlt
        go_wp2_with (fail)
        go_roundw
        case rel => exact ⟨5, q2, rfl, by decide, rfl, HQ2, trivial⟩
        case measure => simp [intOf]
      · have ey : ((y * 256 ^ 5 : Nat) : Int) = (y : Int) * 1099511627776 := by rw [show (256 : Nat) ^ 5 = 1099511627776 from rfl]; omega
        have hor : bits .or .u64 (q : Int) ((y : Int) * 1099511627776) = ((q + y * 256 ^ 5 : Nat) : Int) := by
          have h := HOR.out
          rwa [ey] at h
        have hsh : IntKind.u64.wrap ((y : Int) * 1099511627776) = (y : Int) * 1099511627776 := by
          have h := HSH.out
          rwa [ey] at h
        have hy0 : IntKind.u64.wrap (y : Int) = (y : Int) := u64_nat (by have := HY.out; omega)
        clear ey
        generalize q + y * 256 ^ 5 = q2 at *
        clear hlt
        go_wp2_with (fail)
        go_roundw
        case rel => exact ⟨6, q2, rfl, by decide, rfl, HQ2, trivial⟩
        case measure => simp [intOf]
      · have ey : ((y * 256 ^ 6 : Nat) : Int) = (y : Int) * 281474976710656 := by rw [show (256 : Nat) ^ 6 = 281474976710656 from rfl]; omega
        have hor : bits .or .u64 (q : Int) ((y : Int) * 281474976710656) = ((q + y * 256 ^ 6 : Nat) : Int) := by
          have h := HOR.out
          rwa [ey] at h
        have hsh : IntKind.u64.wrap ((y : Int) * 281474976710656) = (y : Int) * 281474976710656 := by
          have h := HSH.out
          rwa [ey] at h
        have hy0 : IntKind.u64.wrap (y : Int) = (y : Int) := u64_nat (by have := HY.out; omega)
        clear ey
        generalize q + y * 256 ^ 6 = q2 at *
        clear hlt
        go_wp2_with (fail)
        go_roundw
        case rel => exact ⟨7, q2, rfl, by decide, rfl, HQ2, trivial⟩
        case measure => simp [intOf]
      · have ey : ((y * 256 ^ 7 : Nat) : Int) = (y : Int) * 72057594037927936 := by rw [show (256 : Nat) ^ 7 = 72057594037927936 from rfl]; omega
        have hor : bits .or .u64 (q : Int) ((y : Int) * 72057594037927936) = ((q + y * 256 ^ 7 : Nat) : Int) := by
          have h := HOR.out
          rwa [ey] at h
        have hsh : IntKind.u64.wrap ((y : Int) * 72057594037927936) = (y : Int) * 72057594037927936 := by
          have h := HSH.out
          rwa [ey] at h
        have hy0 : IntKind.u64.wrap (y : Int) = (y : Int) := u64_nat (by have := HY.out; omega)
        clear ey
        generalize q + y * 256 ^ 7 = q2 at *
        clear hlt
        go_wp2_with (fail)
        go_roundw
        case rel => exact ⟨8, q2, rfl, by decide, rfl, HQ2, trivial⟩
        case measure => simp [intOf]
    · obtain rfl : i = 8 := by omega
      have HQ2 := Lib.hid (show q = N from by rw [HQ.out, HAL.out, HNX.out])
      clear hlt hi8
      by_cases h8 : c = 8
      · subst h8
        go_wp2_with (fail)
        go_ret
        exact ⟨o, by rw [← HQ2.out]; rfl, HC.out _, HO.out _, by simp [World.setCell], .inr rfl⟩
      · go_wp2_with (fail)
        go_ret
        exact ⟨o + 8, by rw [← HQ2.out]; rfl, HC.out _, HO.out _, by simp [World.setCell], .inl rfl⟩
end
/-! calls, the landed: put, own. -/
section
open Go.RowKit Go
attribute [local go_sem] Oper.semAt_some

theorem CallAt.set {w : World} {b : Nat} {q r : CallM} {a a2 : Option Addr} {n c n2 c2 : Nat} (h : CallAt w b q a n c) (i : Nat) (x : Value) (e : (q.cells a n c).setIfInBounds i x = r.cells a2 n2 c2) : CallAt (w.setCell ⟨b, i, none⟩ x) b r a2 n2 c2 := by
  unfold CallAt at *
  rw [← e]
  simp [World.setCell, Array.getElem?_modify, h]
theorem CallAt.frozen {w : World} {b : Nat} {q : CallM} {a : Option Addr} {n c : Nat} (h : CallAt w b q a n c) (i : Nat) : w.frozen? ⟨b, i, none⟩ = false := by
  unfold CallAt at h
  simp [World.frozen?, h]
theorem u8_nat (v : Nat) : IntKind.u8.wrap (v : Int) = ((v % 256 : Nat) : Int) := by
  rw [IntKind.wrap_u8]
  omega
def PutP (w : World) (b : Nat) (q : CallM) (a : Option Addr) (n c : Nat) (e : Ending) (w' : World) : Prop := e = .returned (.tuple #[]) ∧ CallAt w' b q a n c ∧ Only (fun k => k = b) w w' ∧ w'.heap.size = w.heap.size

set_option maxRecDepth 100000 in
set_option maxHeartbeats 4000000 in
theorem put112_any {q : CallM} {a : Option Addr} {n c b : Nat} {w : World} (h : CallAt w b q a n c) (v : Nat) : Calls Tryd.prog 42 #[.pointer (some ⟨b, 0, none⟩), .int .i32 112, .int .u64 (v : Int)] w (PutP w b (putC q 112 v) a n c) := by
  have k := h.cell 1 (v := .int .i64 q.pid) rfl
  have hfz := h.frozen 1
  have HC := Lib.hid (h.set (r := putC q 112 v) (a2 := a) (n2 := n) (c2 := c) 1 (.int .i64 (wrap64 (v : Int))) (by rw [show putC q 112 v = { q with pid := wrap64 (v : Int) } from by simp [putC]]; generalize wrap64 (v : Int) = z; rfl))
  have HO := Lib.hid (Only.setCell (S := fun k => k = b) w ⟨b, 1, none⟩ rfl (.int .i64 (wrap64 (v : Int))))
  clear h
  go_enter Tryd.func42, Tryd.ntmps42
  go_wp2_with (fail)
  refine bodyPost_ret (results_none rfl _ _ _) rfl ?_
  exact ⟨rfl, HC.out, HO.out, by simp [World.setCell]⟩
set_option maxRecDepth 100000 in
set_option maxHeartbeats 4000000 in
theorem put103_any {q : CallM} {a : Option Addr} {n c b : Nat} {w : World} (h : CallAt w b q a n c) (v : Nat) : Calls Tryd.prog 42 #[.pointer (some ⟨b, 0, none⟩), .int .i32 103, .int .u64 (v : Int)] w (PutP w b (putC q 103 v) a n c) := by
  have k := h.cell 3 (v := .int .i64 q.page) rfl
  have hfz := h.frozen 3
  have HC := Lib.hid (h.set (r := putC q 103 v) (a2 := a) (n2 := n) (c2 := c) 3 (.int .i64 (wrap64 (v : Int))) (by rw [show putC q 103 v = { q with page := wrap64 (v : Int) } from by simp [putC]]; generalize wrap64 (v : Int) = z; rfl))
  have HO := Lib.hid (Only.setCell (S := fun k => k = b) w ⟨b, 3, none⟩ rfl (.int .i64 (wrap64 (v : Int))))
  clear h
  go_enter Tryd.func42, Tryd.ntmps42
  go_wp2_with (fail)
  refine bodyPost_ret (results_none rfl _ _ _) rfl ?_
  exact ⟨rfl, HC.out, HO.out, by simp [World.setCell]⟩
set_option maxRecDepth 100000 in
set_option maxHeartbeats 4000000 in
theorem put99_any {q : CallM} {a : Option Addr} {n c b : Nat} {w : World} (h : CallAt w b q a n c) (v : Nat) : Calls Tryd.prog 42 #[.pointer (some ⟨b, 0, none⟩), .int .i32 99, .int .u64 (v : Int)] w (PutP w b (putC q 99 v) a n c) := by
  have k := h.cell 4 (v := .int .i64 q.count) rfl
  have hfz := h.frozen 4
  have HC := Lib.hid (h.set (r := putC q 99 v) (a2 := a) (n2 := n) (c2 := c) 4 (.int .i64 (wrap64 (v : Int))) (by rw [show putC q 99 v = { q with count := wrap64 (v : Int) } from by simp [putC]]; generalize wrap64 (v : Int) = z; rfl))
  have HO := Lib.hid (Only.setCell (S := fun k => k = b) w ⟨b, 4, none⟩ rfl (.int .i64 (wrap64 (v : Int))))
  clear h
  go_enter Tryd.func42, Tryd.ntmps42
  go_wp2_with (fail)
  refine bodyPost_ret (results_none rfl _ _ _) rfl ?_
  exact ⟨rfl, HC.out, HO.out, by simp [World.setCell]⟩
set_option maxRecDepth 100000 in
set_option maxHeartbeats 4000000 in
theorem put110_any {q : CallM} {a : Option Addr} {n c b : Nat} {w : World} (h : CallAt w b q a n c) (v : Nat) : Calls Tryd.prog 42 #[.pointer (some ⟨b, 0, none⟩), .int .i32 110, .int .u64 (v : Int)] w (PutP w b (putC q 110 v) a n c) := by
  have k := h.cell 2 (v := .int .i64 q.node) rfl
  have hfz := h.frozen 2
  have HC := Lib.hid (h.set (r := putC q 110 v) (a2 := a) (n2 := n) (c2 := c) 2 (.int .i64 (wrap64 (v : Int))) (by rw [show putC q 110 v = { q with node := wrap64 (v : Int) } from by simp [putC]]; generalize wrap64 (v : Int) = z; rfl))
  have HO := Lib.hid (Only.setCell (S := fun k => k = b) w ⟨b, 2, none⟩ rfl (.int .i64 (wrap64 (v : Int))))
  clear h
  go_enter Tryd.func42, Tryd.ntmps42
  go_wp2_with (fail)
  refine bodyPost_ret (results_none rfl _ _ _) rfl ?_
  exact ⟨rfl, HC.out, HO.out, by simp [World.setCell]⟩
set_option maxRecDepth 100000 in
set_option maxHeartbeats 4000000 in
theorem put97_any {q : CallM} {a : Option Addr} {n c b : Nat} {w : World} (h : CallAt w b q a n c) (v : Nat) : Calls Tryd.prog 42 #[.pointer (some ⟨b, 0, none⟩), .int .i32 97, .int .u64 (v : Int)] w (PutP w b (putC q 97 v) a n c) := by
  have k := h.cell 5 (v := .int .i64 q.addr) rfl
  have hfz := h.frozen 5
  have HC := Lib.hid (h.set (r := putC q 97 v) (a2 := a) (n2 := n) (c2 := c) 5 (.int .i64 (wrap64 (v : Int))) (by rw [show putC q 97 v = { q with addr := wrap64 (v : Int) } from by simp [putC]]; generalize wrap64 (v : Int) = z; rfl))
  have HO := Lib.hid (Only.setCell (S := fun k => k = b) w ⟨b, 5, none⟩ rfl (.int .i64 (wrap64 (v : Int))))
  clear h
  go_enter Tryd.func42, Tryd.ntmps42
  go_wp2_with (fail)
  refine bodyPost_ret (results_none rfl _ _ _) rfl ?_
  exact ⟨rfl, HC.out, HO.out, by simp [World.setCell]⟩
set_option maxRecDepth 100000 in
set_option maxHeartbeats 4000000 in
theorem put115_any {q : CallM} {a : Option Addr} {n c b : Nat} {w : World} (h : CallAt w b q a n c) (v : Nat) : Calls Tryd.prog 42 #[.pointer (some ⟨b, 0, none⟩), .int .i32 115, .int .u64 (v : Int)] w (PutP w b (putC q 115 v) a n c) := by
  have k := h.cell 6 (v := .int .i64 q.size) rfl
  have hfz := h.frozen 6
  have HC := Lib.hid (h.set (r := putC q 115 v) (a2 := a) (n2 := n) (c2 := c) 6 (.int .i64 (wrap64 (v : Int))) (by rw [show putC q 115 v = { q with size := wrap64 (v : Int) } from by simp [putC]]; generalize wrap64 (v : Int) = z; rfl))
  have HO := Lib.hid (Only.setCell (S := fun k => k = b) w ⟨b, 6, none⟩ rfl (.int .i64 (wrap64 (v : Int))))
  clear h
  go_enter Tryd.func42, Tryd.ntmps42
  go_wp2_with (fail)
  refine bodyPost_ret (results_none rfl _ _ _) rfl ?_
  exact ⟨rfl, HC.out, HO.out, by simp [World.setCell]⟩
set_option maxRecDepth 100000 in
set_option maxHeartbeats 4000000 in
theorem put104_any {q : CallM} {a : Option Addr} {n c b : Nat} {w : World} (h : CallAt w b q a n c) (v : Nat) : Calls Tryd.prog 42 #[.pointer (some ⟨b, 0, none⟩), .int .i32 104, .int .u64 (v : Int)] w (PutP w b (putC q 104 v) a n c) := by
  have k := h.cell 10 (v := .int .u64 (q.handle : Int)) rfl
  have hfz := h.frozen 10
  have HC := Lib.hid (h.set (r := putC q 104 v) (a2 := a) (n2 := n) (c2 := c) 10 (.int .u64 (v : Int)) (by rw [show putC q 104 v = { q with handle := v } from by simp [putC]]; rfl))
  have HO := Lib.hid (Only.setCell (S := fun k => k = b) w ⟨b, 10, none⟩ rfl (.int .u64 (v : Int)))
  clear h
  go_enter Tryd.func42, Tryd.ntmps42
  go_wp2_with (fail)
  refine bodyPost_ret (results_none rfl _ _ _) rfl ?_
  exact ⟨rfl, HC.out, HO.out, by simp [World.setCell]⟩
set_option maxRecDepth 100000 in
set_option maxHeartbeats 4000000 in
theorem put114_any {q : CallM} {a : Option Addr} {n c b : Nat} {w : World} (h : CallAt w b q a n c) (v : Nat) : Calls Tryd.prog 42 #[.pointer (some ⟨b, 0, none⟩), .int .i32 114, .int .u64 (v : Int)] w (PutP w b (putC q 114 v) a n c) := by
  have k := h.cell 7 (v := .int .u8 (q.rights : Int)) rfl
  have hfz := h.frozen 7
  have HC := Lib.hid (h.set (r := putC q 114 v) (a2 := a) (n2 := n) (c2 := c) 7 (.int .u8 ((v : Int) % 256)) (by rw [show ((v : Int) % 256) = ((v % 256 : Nat) : Int) by omega, show putC q 114 v = { q with rights := v % 256 } from by simp [putC]]; generalize v % 256 = z; rfl))
  have HO := Lib.hid (Only.setCell (S := fun k => k = b) w ⟨b, 7, none⟩ rfl (.int .u8 ((v : Int) % 256)))
  clear h
  go_enter Tryd.func42, Tryd.ntmps42
  go_wp2_with (fail)
  refine bodyPost_ret (results_none rfl _ _ _) rfl ?_
  exact ⟨rfl, HC.out, HO.out, by simp [World.setCell]⟩
set_option maxRecDepth 100000 in
set_option maxHeartbeats 4000000 in
theorem put107_any {q : CallM} {a : Option Addr} {n c b : Nat} {w : World} (h : CallAt w b q a n c) (v : Nat) : Calls Tryd.prog 42 #[.pointer (some ⟨b, 0, none⟩), .int .i32 107, .int .u64 (v : Int)] w (PutP w b (putC q 107 v) a n c) := by
  have k := h.cell 8 (v := .int .u8 (q.pk : Int)) rfl
  have hfz := h.frozen 8
  have HC := Lib.hid (h.set (r := putC q 107 v) (a2 := a) (n2 := n) (c2 := c) 8 (.int .u8 ((v : Int) % 256)) (by rw [show ((v : Int) % 256) = ((v % 256 : Nat) : Int) by omega, show putC q 107 v = { q with pk := v % 256 } from by simp [putC]]; generalize v % 256 = z; rfl))
  have HO := Lib.hid (Only.setCell (S := fun k => k = b) w ⟨b, 8, none⟩ rfl (.int .u8 ((v : Int) % 256)))
  clear h
  go_enter Tryd.func42, Tryd.ntmps42
  go_wp2_with (fail)
  refine bodyPost_ret (results_none rfl _ _ _) rfl ?_
  exact ⟨rfl, HC.out, HO.out, by simp [World.setCell]⟩
set_option maxRecDepth 100000 in
set_option maxHeartbeats 4000000 in
theorem put109_any {q : CallM} {a : Option Addr} {n c b : Nat} {w : World} (h : CallAt w b q a n c) (v : Nat) : Calls Tryd.prog 42 #[.pointer (some ⟨b, 0, none⟩), .int .i32 109, .int .u64 (v : Int)] w (PutP w b (putC q 109 v) a n c) := by
  have k := h.cell 9 (v := .int .u8 (q.pm : Int)) rfl
  have hfz := h.frozen 9
  have HC := Lib.hid (h.set (r := putC q 109 v) (a2 := a) (n2 := n) (c2 := c) 9 (.int .u8 ((v : Int) % 256)) (by rw [show ((v : Int) % 256) = ((v % 256 : Nat) : Int) by omega, show putC q 109 v = { q with pm := v % 256 } from by simp [putC]]; generalize v % 256 = z; rfl))
  have HO := Lib.hid (Only.setCell (S := fun k => k = b) w ⟨b, 9, none⟩ rfl (.int .u8 ((v : Int) % 256)))
  clear h
  go_enter Tryd.func42, Tryd.ntmps42
  go_wp2_with (fail)
  refine bodyPost_ret (results_none rfl _ _ _) rfl ?_
  exact ⟨rfl, HC.out, HO.out, by simp [World.setCell]⟩
set_option maxRecDepth 100000 in
set_option maxHeartbeats 4000000 in
theorem put98_any {q : CallM} {a : Option Addr} {n c b : Nat} {w : World} (h : CallAt w b q a n c) (v : Nat) : Calls Tryd.prog 42 #[.pointer (some ⟨b, 0, none⟩), .int .i32 98, .int .u64 (v : Int)] w (PutP w b (putC q 98 v) a n c) := by
  have HC := Lib.hid h
  clear h
  go_enter Tryd.func42, Tryd.ntmps42
  go_wp2_with (fail)
  refine bodyPost_ret (results_none rfl _ _ _) rfl ?_
  exact ⟨rfl, HC.out, Only.refl _ _, rfl⟩
theorem put_l {q : CallM} {a : Option Addr} {n c b : Nat} {w : World} (h : CallAt w b q a n c) {l : Nat} (hl : l ∈ allF) (v : Nat) : Calls Tryd.prog 42 #[.pointer (some ⟨b, 0, none⟩), .int .i32 (l : Int), .int .u64 (v : Int)] w (PutP w b (putC q l v) a n c) := by
  simp only [allF, List.mem_cons, List.not_mem_nil, or_false] at hl
  rcases hl with rfl | rfl | rfl | rfl | rfl | rfl | rfl | rfl | rfl | rfl | rfl
  · exact put112_any h v
  · exact put103_any h v
  · exact put99_any h v
  · exact put110_any h v
  · exact put97_any h v
  · exact put115_any h v
  · exact put104_any h v
  · exact put114_any h v
  · exact put107_any h v
  · exact put109_any h v
  · exact put98_any h v
set_option maxRecDepth 100000 in
theorem own_any {w : World} {a : Option Addr} {n c : Nat} {x : Nat → UInt8} (S : Src w a n x) (hn : n ≤ 2100) : Calls Tryd.prog 43 #[.slice a n c] w fun e w' => ∃ v, e = .returned v ∧ BytAt w.heap.size (lisX x n) v w' ∧ Below w.heap.size w w' := by
  obtain ⟨i0, hi0, hz0, hz1, hz2⟩ := info_parts infoByte
  have HS := Lib.hid S
  have HN := Lib.hid hn
  clear S hn
  go_enter Tryd.func43, Tryd.ntmps43
  go_wp2_with (first | (at_builtin; refine wpList_append_src w rfl _ _ 27 rfl w.heap.size 5 i0 _ 1 1 Tryd.underlying27 hi0 hz0 hz1 hz2 rfl (by decide) (.slice none 0 0) 0 [] rfl (World.ownsRow_nil _ _ _ _) a n c (bytL n x) rfl (by rw [bytL_len]; omega) HS.out.cells (bytL_one _ _) (by have := HN.out; unfold maxLen; omega) (by have := HN.out; omega) (Nat.le_refl _) ?_; intro v6 W6 hown6 hg6 _) | fail)
  have ho6 : Only (fun k => (Value.slice none 0 0).ownBlock = some k) w W6 := Only.of_grown hg6
  have HB6 := Lib.hid (ho6.below (Below.refl w.heap.size w) (Nat.le_refl _) (fun k hk => by cases hk))
  have HV6 := Lib.hid (show BytAt w.heap.size (lisX x n) v6 W6 from by
    unfold BytAt
    rw [lisX_len, bvs_lisX]
    have h := hown6
    rwa [Nat.zero_add, List.nil_append] at h)
  clear hown6 hg6 ho6
  go_ret
  exact ⟨_, rfl, HV6.out, HB6.out⟩
end
/-! calls, the landed: what is left to be read, a call that is laid whole. -/
section
open Go.RowKit Go

/-- The variable of what is left, m numbers cut off. -/
def VarAt (W : World) (vb n m g o : Nat) : Prop := ∃ a c, RowAt W vb 1 (fun _ => .slice a (n - 8 * m) c) ∧ n - 8 * m ≤ c ∧ (0 < n - 8 * m → a = some ⟨g, o + 8 * m, none⟩)
theorem VarAt.lt {W : World} {vb n m g o : Nat} (h : VarAt W vb n m g o) : vb < W.heap.size := by
  obtain ⟨a, c, h1, _⟩ := h
  exact h1.lt
theorem VarAt.only {S : Nat → Prop} {W W' : World} {vb n m g o : Nat} (h : VarAt W vb n m g o) (ho : Only S W W') (hs : ¬ S vb) : VarAt W' vb n m g o := by
  obtain ⟨a, c, h1, h2⟩ := h
  exact ⟨a, c, h1.only ho hs, h2⟩
theorem VarAt.later {W W' : World} {vb n m g o : Nat} (h : VarAt W vb n m g o) (hb : Below W.heap.size W W') : VarAt W' vb n m g o := by
  obtain ⟨a, c, h1, h2⟩ := h
  exact ⟨a, c, h1.later hb, h2⟩
theorem VarAt.src {W : World} {vb n m g o : Nat} (h : VarAt W vb n m g o) (x : Nat → UInt8) : ∃ a c, W.cell? ⟨vb, 0, none⟩ = some (.slice a (n - 8 * m) c) ∧ ∀ V, Src V (some ⟨g, o, none⟩) n x → Src V a (n - 8 * m) (shX x (8 * m)) := by
  obtain ⟨a, c, h1, h2, h3⟩ := h
  refine ⟨a, c, h1.cell 0 (by decide), fun V S h0 => ?_⟩
  rw [h3 h0]
  exact S.from (8 * m) h0
def NextV (W : World) (vb n m g o : Nat) (x : Nat → UInt8) (e : Ending) (W' : World) : Prop := e = .returned (.int .u64 ((numQ x n (8 * m) : Nat) : Int)) ∧ VarAt W' vb n (m + 1) g o ∧ Only (fun k => k = vb) W W' ∧ W'.heap.size = W.heap.size
theorem VarAt.next {W : World} {vb n m g o : Nat} {x : Nat → UInt8} (h : VarAt W vb n m g o) (S : Src W (some ⟨g, o, none⟩) n x) : Calls Tryd.prog 41 #[.pointer (some ⟨vb, 0, none⟩)] W (NextV W vb n m g o x) := by
  obtain ⟨a, c, h1, h2, h3⟩ := h
  by_cases h8 : n - 8 * m < 8
  · refine (next_few h1 h8).mono ?_
    rintro e W' ⟨rfl, hr, ho, hs⟩
    refine ⟨?_, ⟨none, 0, ?_, by omega, fun h0 => by omega⟩, ho, hs⟩
    · unfold numQ
      rw [if_neg (by omega)]
    · rw [show n - 8 * (m + 1) = 0 by omega]
      exact hr
  · obtain rfl := h3 (by omega)
    refine (next_more h1 (by omega) h2 (S.from (8 * m))).mono ?_
    rintro e W' ⟨o', rfl, hr, ho, hs, ho'⟩
    refine ⟨?_, ⟨some ⟨g, o', none⟩, c - 8, ?_, by omega, fun h0 => ?_⟩, ho, hs⟩
    · unfold numQ
      rw [if_pos (by omega), numX_sh]
    · rw [show n - 8 * (m + 1) = n - 8 * m - 8 by omega]
      exact hr
    · rcases ho' with rfl | h
      · rw [show o + 8 * m + 8 = o + 8 * (m + 1) by omega]
      · omega
/-- Cells laid one behind the other. -/
def layA (A : Array Value) : Nat → List Value → Array Value
  | _, [] => A
  | o, v :: r => layA (A.setIfInBounds o v) (o + 1) r
theorem lay_row {b : Nat} {T : TypeId} : ∀ (vs : List Value) (o : Nat) (W : World) (A : Array Value), W.heap[b]? = some (.cells A T (0, 0)) → (W.setCells b o vs).heap[b]? = some (.cells (layA A o vs) T (0, 0))
  | [], _, _, _, h => h
  | v :: r, o, W, A, h => by
    refine lay_row r (o + 1) (W.setCell ⟨b, o, none⟩ v) (A.setIfInBounds o v) ?_
    simp [World.setCell, Array.getElem?_modify, h]
theorem lay_call (q r : CallM) (a a2 : Option Addr) (n c n2 c2 : Nat) : layA (q.cells a n c) 0 (r.cells a2 n2 c2).toList = r.cells a2 n2 c2 := by
  simp only [layA, List.setIfInBounds_toArray, List.set_cons_zero, List.set_cons_succ]
theorem CallAt.lay {w : World} {b : Nat} {q : CallM} {a : Option Addr} {n c : Nat} (h : CallAt w b q a n c) (r : CallM) (a2 : Option Addr) (n2 c2 : Nat) : CallAt (w.setCells b 0 (r.cells a2 n2 c2).toList) b r a2 n2 c2 := by
  have h2 := lay_row (r.cells a2 n2 c2).toList 0 w _ h
  rw [lay_call] at h2
  exact h2
theorem CallAt.there {w : World} {b : Nat} {q : CallM} {a : Option Addr} {n c : Nat} (h : CallAt w b q a n c) : w.there b 0 12 := fun j hj => by
  refine ⟨?_, h.frozen _⟩
  rw [Nat.zero_add, cell_of_row _ _ _ _ _ _ h]
  have hs : j < (q.cells a n c).size := hj
  rw [Array.getElem?_eq_getElem hs]
  rfl
theorem CallAt.only {S : Nat → Prop} {w w' : World} {b : Nat} {q : CallM} {a : Option Addr} {n c : Nat} (h : CallAt w b q a n c) (ho : Only S w w') (hs : ¬ S b) : CallAt w' b q a n c := by
  unfold CallAt
  rw [ho.block b h.lt hs]
  exact h
end
/-! calls, the landed: results. -/
section
open Go.RowKit Go
attribute [local go_sem] Oper.semAt_some

/-- A result in a block of its own. -/
def ResAt (w : World) (b : Nat) (e : Int) (v : Nat) (a : Option Addr) (n c : Nat) : Prop := w.heap[b]? = some (.cells (rsA e v a n c) 41 (0, 0))
theorem ResAt.new (w : World) (e : Int) (v : Nat) (a : Option Addr) (n c : Nat) : ResAt (w.alloc (.cells (rsA e v a n c) 41)) w.heap.size e v a n c := heap_alloc_new w _
theorem ResAt.lt {w : World} {b v n c : Nat} {e : Int} {a : Option Addr} (h : ResAt w b e v a n c) : b < w.heap.size := (Array.getElem?_eq_some_iff.1 h).1
theorem ResAt.later {w w' : World} {b v n c : Nat} {e : Int} {a : Option Addr} (h : ResAt w b e v a n c) (hb : Below w.heap.size w w') : ResAt w' b e v a n c := by
  unfold ResAt
  rw [hb.block b h.lt]
  exact h
theorem ResAt.only {S : Nat → Prop} {w w' : World} {b v n c : Nat} {e : Int} {a : Option Addr} (h : ResAt w b e v a n c) (ho : Only S w w') (hs : ¬ S b) : ResAt w' b e v a n c := by
  unfold ResAt
  rw [ho.block b h.lt hs]
  exact h
theorem ResAt.cell {w : World} {b v n c : Nat} {e : Int} {a : Option Addr} (h : ResAt w b e v a n c) (i : Nat) {u : Value} (hv : (rsA e v a n c)[i]? = some u) : w.cell? ⟨b, i, none⟩ = some u := by
  rw [cell_of_row _ _ _ _ _ _ h]
  exact hv
theorem ResAt.frozen {w : World} {b v n c : Nat} {e : Int} {a : Option Addr} (h : ResAt w b e v a n c) (i : Nat) : w.frozen? ⟨b, i, none⟩ = false := by
  unfold ResAt at h
  simp [World.frozen?, h]
theorem ResAt.set {w : World} {b v n c v2 n2 c2 : Nat} {e e2 : Int} {a a2 : Option Addr} (h : ResAt w b e v a n c) (i : Nat) (x : Value) (q : (rsA e v a n c).setIfInBounds i x = rsA e2 v2 a2 n2 c2) : ResAt (w.setCell ⟨b, i, none⟩ x) b e2 v2 a2 n2 c2 := by
  unfold ResAt at *
  rw [← q]
  simp [World.setCell, Array.getElem?_modify, h]
theorem ResAt.there {w : World} {b v n c : Nat} {e : Int} {a : Option Addr} (h : ResAt w b e v a n c) : w.there b 0 3 := fun j hj => by
  refine ⟨?_, h.frozen _⟩
  rw [Nat.zero_add, cell_of_row _ _ _ _ _ _ h]
  have hs : j < (rsA e v a n c).size := hj
  rw [Array.getElem?_eq_getElem hs]
  rfl
theorem ResAt.lay {w : World} {b v n c : Nat} {e : Int} {a : Option Addr} (h : ResAt w b e v a n c) (e2 : Int) (v2 : Nat) (a2 : Option Addr) (n2 c2 : Nat) : ResAt (w.setCells b 0 (rsA e2 v2 a2 n2 c2).toList) b e2 v2 a2 n2 c2 := by
  have h2 := lay_row (rsA e2 v2 a2 n2 c2).toList 0 w _ h
  have h3 : layA (rsA e v a n c) 0 (rsA e2 v2 a2 n2 c2).toList = rsA e2 v2 a2 n2 c2 := by simp only [layA, List.setIfInBounds_toArray, List.set_cons_zero, List.set_cons_succ]
  rw [h3] at h2
  exact h2
theorem ResAt.load {W : World} {b v n c : Nat} {e : Int} {a : Option Addr} (h : ResAt W b e v a n c) : (loadVar 41 ⟨b, 0, none⟩).run Tryd.prog W = .ok (rsV e v a n c) W :=
  run_loadVar_row (P := Tryd.prog) W b 41 41 _ (0, 0) _ h Tryd.underlying41 rfl sizeRes
theorem wpList_load_rsk {ops : Array Oper} {rest : List Oper} {o : Oper} {ac : Act} {w : World} {Q : Exit → Act → World → Prop} {e : Int} {v : Nat} {a : Option Addr} {n c : Nat} (hw : Region.wanted o (yielded ops ac.tmps) = true) (x : Operand) (ho : o.op = .load 41 x) (p : Nat) (hx : ac.eval x = .pointer (some ⟨p, 0, none⟩))
    (hB : ResAt w p e v a n c) (h : wpList Tryd.prog ops Q rest (ac.put o.dst (rsV e v a n c)) w) : wpList Tryd.prog ops Q (o :: rest) ac w :=
  BigFrame.wpList_want hw fun _ hK => wp_load_row 41 x ho p hx 41 _ (0, 0) _ hB Tryd.underlying41 rfl sizeRes (hK _ _ h)
theorem res_box (w : World) (e : Int) (v : Nat) (a : Option Addr) (n c : Nat) : Below w.heap.size w (w.alloc (.cells (rsA e v a n c) 41)) := (Below.refl _ _).alloc (Nat.le_refl _) _
set_option maxRecDepth 100000 in
set_option maxHeartbeats 4000000 in
theorem kmayr_any (e : Int) (v : Nat) (a : Option Addr) (n c : Nat) (hn : n ≤ 2100) (w : World) : Calls Tryd.prog 26 #[rsV e v a n c] w fun r w' => r = .returned (.bool (mayRs e v n)) ∧ Below w.heap.size w w' := by
  have HB := Lib.hid (res_box w e v a n c)
  have k0 := (ResAt.new w e v a n c).cell 0 (u := .int .i64 e) rfl
  have k1 := (ResAt.new w e v a n c).cell 1 (u := .int .u64 (v : Int)) rfl
  have k2 := (ResAt.new w e v a n c).cell 2 (u := .slice a n c) rfl
  have hnI : (n : Int) ≤ 2100 := by omega
  unfold mayRs
  by_cases h1 : 0 ≤ e ∧ e ≤ 999
  · have HW := Lib.hid (show (decide (0 ≤ e) && decide (e ≤ 999)) = true by rw [decide_eq_true h1.1, decide_eq_true h1.2]; rfl)
    by_cases h3 : 8 < n
    · have h3I : (8 : Int) < n := by omega
      rw [if_pos (.inr (.inr h3))]
      clear h1 h3 hn
      go_enter Tryd.func26, Tryd.ntmps26
      go_wp2_with (fail)
      generalize w.alloc (.cells (rsA e v a n c) 41) = w1 at *
      refine (kwithin_any _ _ _ _).mono ?_
      rintro r w2 ⟨rfl, rfl⟩
      rw [HW.out]
      go_wp2_with (fail)
      go_ret
      exact ⟨rfl, HB.out⟩
    · have h3I : ¬ (8 : Int) < n := by omega
      rw [if_neg (by omega)]
      by_cases he : e = 0
      · subst he
        clear h1 h3 hn
        go_enter Tryd.func26, Tryd.ntmps26
        go_wp2_with (fail)
        generalize w.alloc (.cells (rsA 0 v a n c) 41) = w1 at *
        refine (kwithin_any _ _ _ _).mono ?_
        rintro r w2 ⟨rfl, rfl⟩
        rw [HW.out]
        go_wp2_with (fail)
        go_ret
        exact ⟨rfl, HB.out⟩
      · have heb : (e == 0) = false := by rw [beq_eq_false_iff_ne]; exact he
        by_cases hv : v = 0
        · subst hv
          have HE := Lib.hid (show (decide (e = 0) || (decide ((0 : Nat) = 0) && decide (n = 0))) = ((n : Int) == 0) from by
            have h := beq_nat n 0
            rw [decide_eq_false he, show ((n : Int) == 0) = decide (n = 0) from h]
            simp)
          rw [HE.out]
          clear h1 h3 he hn
          go_enter Tryd.func26, Tryd.ntmps26
          go_wp2_with (fail)
          generalize w.alloc (.cells (rsA e 0 a n c) 41) = w1 at *
          refine (kwithin_any _ _ _ _).mono ?_
          rintro r w2 ⟨rfl, rfl⟩
          rw [HW.out]
          go_wp2_with (fail)
          go_ret
          exact ⟨by first | rfl | simp, HB.out⟩
        · have hvb : ((v : Int) == 0) = false := by rw [beq_eq_false_iff_ne]; omega
          have HE := Lib.hid (show (decide (e = 0) || (decide (v = 0) && decide (n = 0))) = false by simp [he, hv])
          rw [HE.out]
          clear h1 h3 he hv hn
          go_enter Tryd.func26, Tryd.ntmps26
          go_wp2_with (fail)
          generalize w.alloc (.cells (rsA e v a n c) 41) = w1 at *
          refine (kwithin_any _ _ _ _).mono ?_
          rintro r w2 ⟨rfl, rfl⟩
          rw [HW.out]
          go_wp2_with (fail)
          go_ret
          exact ⟨rfl, HB.out⟩
  · have HW := Lib.hid (show (decide (0 ≤ e) && decide (e ≤ 999)) = false by rw [← Bool.decide_and]; exact decide_eq_false h1)
    rw [if_pos (by omega)]
    clear h1 hn
    go_enter Tryd.func26, Tryd.ntmps26
    go_wp2_with (fail)
    generalize w.alloc (.cells (rsA e v a n c) 41) = w1 at *
    refine (kwithin_any _ _ _ _).mono ?_
    rintro r w2 ⟨rfl, rfl⟩
    rw [HW.out]
    go_wp2_with (fail)
    go_ret
    exact ⟨rfl, HB.out⟩
set_option maxRecDepth 100000 in
set_option maxHeartbeats 4000000 in
theorem ksamer_any {e1 e2 : Int} {v1 v2 : Nat} {a1 a2 : Option Addr} {n1 n2 c1 c2 : Nat} {x1 x2 : Nat → UInt8} {w : World} (S1 : Src w a1 n1 x1) (S2 : Src w a2 n2 x2) :
    Calls Tryd.prog 28 #[rsV e1 v1 a1 n1 c1, rsV e2 v2 a2 n2 c2] w fun r w' => r = .returned (.bool (sameR e1 e2 v1 v2 (strB n1 x1) (strB n2 x2))) ∧ Below w.heap.size w w' := by
  have hb1 := res_box w e1 v1 a1 n1 c1
  have hb2 := res_box (w.alloc (.cells (rsA e1 v1 a1 n1 c1) 41)) e2 v2 a2 n2 c2
  have HB := Lib.hid (hb1.trans (hb2.mono hb1.size))
  have hC := (ResAt.new w e1 v1 a1 n1 c1).later hb2
  have hD : ResAt ((w.alloc (.cells (rsA e1 v1 a1 n1 c1) 41)).alloc (.cells (rsA e2 v2 a2 n2 c2) 41)) (w.heap.size + 1) e2 v2 a2 n2 c2 := by
    have h := ResAt.new (w.alloc (.cells (rsA e1 v1 a1 n1 c1) 41)) e2 v2 a2 n2 c2
    rwa [show (w.alloc (.cells (rsA e1 v1 a1 n1 c1) 41)).heap.size = w.heap.size + 1 by simp] at h
  have k0 := hC.cell 0 (u := .int .i64 e1) rfl
  have k1 := hC.cell 1 (u := .int .u64 (v1 : Int)) rfl
  have k2 := hC.cell 2 (u := .slice a1 n1 c1) rfl
  have j0 := hD.cell 0 (u := .int .i64 e2) rfl
  have j1 := hD.cell 1 (u := .int .u64 (v2 : Int)) rfl
  have j2 := hD.cell 2 (u := .slice a2 n2 c2) rfl
  have HS := Lib.hid (beq_any (c := c1) (d := c2) (S1.later HB.out) (S2.later HB.out))
  generalize (strB n1 x1) = s1 at *
  generalize (strB n2 x2) = s2 at *
  clear S1 S2 hb1 hb2 hC hD
  unfold sameR
  by_cases he : e1 = e2
  · subst he
    by_cases hv : v1 = v2
    · subst hv
      rw [decide_eq_true rfl, decide_eq_true rfl, Bool.true_and, Bool.true_and]
      generalize (s1.toList == s2.toList) = R at *
      go_enter Tryd.func28, Tryd.ntmps28
      go_wp2_with (fail)
      generalize (w.alloc (.cells (rsA e1 v1 a1 n1 c1) 41)).alloc (.cells (rsA e1 v1 a2 n2 c2) 41) = w1 at *
      refine HS.out.mono ?_
      rintro r w2 ⟨rfl, rfl⟩
      go_wp2_with (fail)
      go_ret
      exact ⟨rfl, HB.out⟩
    · have hvb : ((v1 : Int) == v2) = false := by rw [beq_eq_false_iff_ne]; omega
      rw [decide_eq_true rfl, decide_eq_false hv]
      clear hv
      go_enter Tryd.func28, Tryd.ntmps28
      go_wp2_with (fail)
      go_ret
      exact ⟨rfl, HB.out⟩
  · have heb : (e1 == e2) = false := by rw [beq_eq_false_iff_ne]; exact he
    rw [decide_eq_false he]
    clear he
    go_enter Tryd.func28, Tryd.ntmps28
    go_wp2_with (fail)
    go_ret
    exact ⟨rfl, HB.out⟩
end
/-! calls, the landed: ResultBytes. -/
section
open Go.RowKit Go
attribute [local go_sem] Oper.semAt_some

theorem rs_parts {e : Int} {v n : Nat} (h : mayRs e v n = true) : ∃ e0 : Nat, e = e0 ∧ e0 ≤ 999 ∧ n ≤ 8 := by
  unfold mayRs at h
  by_cases h1 : e < 0 ∨ 999 < e ∨ 8 < n
  · rw [if_pos h1] at h; cases h
  · exact ⟨e.toNat, by omega, by omega, by omega⟩
theorem load_errno {W : World} {b : Nat} {x : Int} (h : W.cell? ⟨b, 0, none⟩ = some (.int .i64 x)) : (loadVar 32 ⟨b, 0, none⟩).run Tryd.prog W = .ok (.int .i64 x) W := run_loadVar_cell (fun _ => by kernel_rfl) h
theorem load_u64c {W : World} {b o : Nat} {x : Int} (h : W.cell? ⟨b, o, none⟩ = some (.int .u64 x)) : (loadVar 26 ⟨b, o, none⟩).run Tryd.prog W = .ok (.int .u64 x) W := run_loadVar_cell (fun _ => by kernel_rfl) h
theorem load_bytes {W : World} {b o n c : Nat} {a : Option Addr} (h : W.cell? ⟨b, o, none⟩ = some (.slice a n c)) : (loadVar 27 ⟨b, o, none⟩).run Tryd.prog W = .ok (.slice a n c) W := run_loadVar_cell (fun _ => by kernel_rfl) h
set_option maxRecDepth 100000 in
set_option maxHeartbeats 8000000 in
theorem kresb_any {e : Int} {v n c : Nat} {a : Option Addr} {x : Nat → UInt8} {w : World} (hn : n ≤ 2100) (hv : v < 18446744073709551616) (S : Src w a n x) : Calls Tryd.prog 25 #[rsV e v a n c] w (ByP w (mayRs e v n) (resL e.toNat v x n)) := by
  obtain ⟨i0, hi0, hz0, hz1, hz2⟩ := info_parts infoByte
  have HB := Lib.hid (res_box w e v a n c)
  have HC := Lib.hid (ResAt.new w e v a n c)
  have HS := Lib.hid S
  have HV := Lib.hid hv
  have HM := Lib.hid (fun V => kmayr_any e v a n c hn V)
  have HBS := Lib.hid (show (w.alloc (.cells (rsA e v a n c) 41)).heap.size = w.heap.size + 1 by simp)
  clear S hn hv
  go_enter Tryd.func25, Tryd.ntmps25
  go_wp2_with (first | (refine wpList_load_rsk rfl (.tmp 1) rfl w.heap.size rfl HC.out ?_) | fail)
  generalize w.alloc (.cells (rsA e v a n c) 41) = w1 at *
  refine (HM.out _).mono ?_
  rintro r w2 ⟨rfl, hb2⟩
  have HB2 := Lib.hid (HB.out.trans (hb2.mono HB.out.size))
  have HC2 := Lib.hid (HC.out.later hb2)
  have HZ := Lib.hid (show w.heap.size < w2.heap.size by have := hb2.size; have := HBS.out; omega)
  clear hb2 HC HB HM HBS
  cases hm : mayRs e v n with
  | false =>
    have HMM := Lib.hid hm
    clear hm
    go_wp2_with (fail)
    go_ret2
    exact .inr ⟨HMM.out, none, 0, rfl, HB2.out⟩
  | true =>
    have HMM := Lib.hid hm
    obtain ⟨e0, rfl, he9, hn8⟩ := rs_parts hm
    have HN8 := Lib.hid hn8
    have HE9 := Lib.hid (show e0 < 18446744073709551616 by omega)
    have hwe : IntKind.u64.wrap (e0 : Int) = e0 := u64_nat (by omega)
    have hwn : IntKind.u64.wrap (n : Int) = n := u64_nat (by omega)
    have HRL := Lib.hid (show resL (e0 : Int).toNat v x n = ((wordL e0 ++ wordL v) ++ wordL n) ++ lisX x n from rfl)
    have L0 := Lib.hid (fun W (hW : Kept w2.heap.size w2 W) => load_errno ((HC2.out.later hW.below).cell 0 rfl))
    have L1 := Lib.hid (fun W (hW : Kept w2.heap.size w2 W) => load_u64c ((HC2.out.later hW.below).cell 1 rfl))
    have L2 := Lib.hid (fun W (hW : Kept w2.heap.size w2 W) => load_bytes ((HC2.out.later hW.below).cell 2 rfl))
    clear hm he9 hn8
    go_wp2_with (fail)
    refine wp_region_lex (Kept w2.heap.size w2) [(0, false), (1, false), (2, false), (4, false), (5, false), (3, true), (6, true), (7, false)] (by kernel_rfl) (by kernel_rfl) rfl (by kernel_rfl) (Below.refl _ w2).drew ?_
    intro W0 hK0
    have HK0 := Lib.hid hK0
    clear hK0
    refine lexH_yieldE rfl rfl ?_
    apply Exists.intro
    refine ⟨fun W hW => ?_, ?_⟩
    focus (go_simp; exact rfl)
    simp only [List.getElem_toArray, List.getElem_cons_zero, Act.put, List.setIfInBounds_toArray, List.set_cons_zero, List.set_cons_succ]
    refine lexH_load rfl rfl _ _ rfl rfl L0.out ?_
    simp only [List.getElem_toArray, List.getElem_cons_succ, List.getElem_cons_zero, Act.put, List.setIfInBounds_toArray, List.set_cons_zero, List.set_cons_succ]
    refine lexH_yieldE rfl rfl ?_
    apply Exists.intro
    refine ⟨fun W hW => ?_, ?_⟩
    focus (go_simp; exact rfl)
    simp only [List.getElem_toArray, List.getElem_cons_succ, List.getElem_cons_zero, Act.put, List.setIfInBounds_toArray, List.set_cons_zero, List.set_cons_succ]
    refine lexH_yieldE rfl rfl ?_
    apply Exists.intro
    refine ⟨fun W hW => ?_, ?_⟩
    focus (go_simp; exact rfl)
    simp only [List.getElem_toArray, List.getElem_cons_succ, List.getElem_cons_zero, Act.put, List.setIfInBounds_toArray, List.set_cons_zero, List.set_cons_succ]
    refine lexH_load rfl rfl _ _ rfl rfl L1.out ?_
    simp only [List.getElem_toArray, List.getElem_cons_succ, List.getElem_cons_zero, Act.put, List.setIfInBounds_toArray, List.set_cons_zero, List.set_cons_succ]
    refine lexH_call 31 #[.slice none 0 0, .int .u64 (e0 : Int)] rfl rfl ?_ ?_
    focus (go_simp; done)
    refine (whole_any (base := w2.heap.size) (L := []) (w := W0) (World.ownsRow_nil _ _ _ _) HK0.out.below.size (by decide) HE9.out).mono ?_
    rintro r W1 ⟨v1, rfl, h1, hb1, -, -⟩
    have HK1 := Lib.hid (show Kept w2.heap.size w2 W1 from HK0.out.below.trans hb1)
    have HV1 := Lib.hid h1
    refine ⟨_, rfl, HK1.out, ?_⟩
    clear h1 hb1 HK0
    simp only [List.getElem_toArray, List.getElem_cons_succ, List.getElem_cons_zero, Act.put, List.setIfInBounds_toArray, List.set_cons_zero, List.set_cons_succ]
    refine lexH_call 31 #[v1, .int .u64 (v : Int)] rfl rfl ?_ ?_
    focus (go_simp; done)
    refine (whole_any HV1.out HK1.out.below.size (by rw [List.nil_append, wordL_len]; decide) HV.out).mono ?_
    rintro r W3 ⟨v3, rfl, h3, hb3, -, -⟩
    have HK3 := Lib.hid (show Kept w2.heap.size w2 W3 from HK1.out.below.trans hb3)
    have HV3 := Lib.hid h3
    refine ⟨_, rfl, HK3.out, ?_⟩
    clear h3 hb3 HK1 HV1
    simp only [List.getElem_toArray, List.getElem_cons_succ, List.getElem_cons_zero, Act.put, List.setIfInBounds_toArray, List.set_cons_zero, List.set_cons_succ]
    refine lexH_yieldE rfl rfl ?_
    apply Exists.intro
    refine ⟨fun W hW => ?_, ?_⟩
    focus (go_simp; exact rfl)
    simp only [List.getElem_toArray, List.getElem_cons_succ, List.getElem_cons_zero, Act.put, List.setIfInBounds_toArray, List.set_cons_zero, List.set_cons_succ]
    refine lexH_nil ?_
    have HB3 := Lib.hid HK3.out.below
    have M2 := Lib.hid (fun W (hW : Kept w2.heap.size W3 W) => load_bytes ((HC2.out.later (HB3.out.trans hW.below)).cell 2 rfl))
    have HD3 := Lib.hid (show Below W3.heap.size W3 W3.drew from (Below.refl _ W3).drew)
    clear L0 L1 L2 HK3
    go_wp2_with (fail)
    refine wp_region_lex1 (Kept w2.heap.size W3) [(0, false), (1, false), (2, false), (3, false), (4, false), (6, false), (7, false), (5, true), (8, true), (9, false), (10, false)] (by kernel_rfl) (by kernel_rfl) rfl (by kernel_rfl) ((Below.refl _ W3).drew) ?_
    intro W4 hW4 hK4
    subst hW4
    clear hK4
    have HV4 := Lib.hid (HV3.out.later HD3.out)
    have HK4 := Lib.hid (show Below w2.heap.size w2 W3.drew from HB3.out.trans (HD3.out.mono HB3.out.size))
    have HKD := Lib.hid (show Kept w2.heap.size W3 W3.drew from (Below.refl _ W3).drew)
    generalize W3.drew = W4 at *
    clear HV3 HD3
    refine lexH_yieldE rfl rfl ?_
    apply Exists.intro
    refine ⟨fun W hW => ?_, ?_⟩
    focus (go_simp; exact rfl)
    simp only [List.getElem_toArray, List.getElem_cons_zero, Act.put, List.setIfInBounds_toArray, List.set_cons_zero, List.set_cons_succ]
    refine lexH_yieldE rfl rfl ?_
    apply Exists.intro
    refine ⟨fun W hW => ?_, ?_⟩
    focus (go_simp; exact rfl)
    simp only [List.getElem_toArray, List.getElem_cons_succ, List.getElem_cons_zero, Act.put, List.setIfInBounds_toArray, List.set_cons_zero, List.set_cons_succ]
    refine lexH_load rfl rfl _ _ rfl rfl M2.out ?_
    simp only [List.getElem_toArray, List.getElem_cons_succ, List.getElem_cons_zero, Act.put, List.setIfInBounds_toArray, List.set_cons_zero, List.set_cons_succ]
    refine lexH_yieldE rfl rfl ?_
    apply Exists.intro
    refine ⟨fun W hW => ?_, ?_⟩
    focus (go_simp; exact rfl)
    simp only [List.getElem_toArray, List.getElem_cons_succ, List.getElem_cons_zero, Act.put, List.setIfInBounds_toArray, List.set_cons_zero, List.set_cons_succ]
    refine lexH_yieldE rfl rfl ?_
    apply Exists.intro
    refine ⟨fun W hW => ?_, ?_⟩
    focus (go_simp; exact rfl)
    simp only [List.getElem_toArray, List.getElem_cons_succ, List.getElem_cons_zero, Act.put, List.setIfInBounds_toArray, List.set_cons_zero, List.set_cons_succ]
    refine lexH_yieldE rfl rfl ?_
    apply Exists.intro
    refine ⟨fun W hW => ?_, ?_⟩
    focus (go_simp; exact rfl)
    simp only [List.getElem_toArray, List.getElem_cons_succ, List.getElem_cons_zero, Act.put, List.setIfInBounds_toArray, List.set_cons_zero, List.set_cons_succ]
    refine lexH_load rfl rfl _ _ rfl rfl M2.out ?_
    simp only [List.getElem_toArray, List.getElem_cons_succ, List.getElem_cons_zero, Act.put, List.setIfInBounds_toArray, List.set_cons_zero, List.set_cons_succ]
    refine lexH_call 31 #[v3, .int .u64 (n : Int)] rfl rfl ?_ ?_
    focus (go_simp; done)
    refine (whole_any HV4.out HK4.out.size (by rw [List.nil_append, List.length_append, wordL_len, wordL_len]; decide) (by have := HN8.out; omega)).mono ?_
    rintro r W5 ⟨v5, rfl, h5, hb5, -, -⟩
    have HB5 := Lib.hid (HK4.out.trans hb5)
    have HK5 := Lib.hid (show Kept w2.heap.size W3 W5 from HKD.out.below.trans hb5)
    have HV5 := Lib.hid h5
    have HL5 := Lib.hid (show ((([] ++ wordL e0) ++ wordL v) ++ wordL n).length = 24 from by simp [wordL_len])
    refine ⟨_, rfl, HK5.out, ?_⟩
    clear h5 hb5 HV4 HKD
    simp only [List.getElem_toArray, List.getElem_cons_succ, List.getElem_cons_zero, Act.put, List.setIfInBounds_toArray, List.set_cons_zero, List.set_cons_succ]
    obtain ⟨ua, uc, hu, hu2⟩ := owns_slice HV5.out
    clear hu2
    subst hu
    refine lexH_append_src W5 rfl rfl _ _ 27 rfl w2.heap.size 5 i0 _ 1 1 Tryd.underlying27 hi0 hz0 hz1 hz2 rfl (by decide) _ _ _ HV5.out HB5.out.size a n c (bytL n x) rfl rfl (by rw [bytL_len]; omega) (HS.out.later (HB2.out.trans (HB5.out.mono (Nat.le_of_lt HZ.out)))).cells (bytL_one _ _) (by rw [HL5.out]; have := HN8.out; omega) (by decide) ?_
    intro v6 W6 hown6 ho6 _
    have HB6 := Lib.hid (ho6.below HB5.out HB5.out.size (fun k hk => (HV5.out.lt k hk).1))
    have HV6 := Lib.hid (show BytAt w2.heap.size (resL (e0 : Int).toNat v x n) v6 W6 from by
      rw [HRL.out]
      refine BytAt.more ?_
      rw [bvs_lisX, lisX_len]
      exact hown6)
    have HK6 := Lib.hid (show Kept w2.heap.size W3 W6 from ho6.below HK5.out.below (Nat.le_trans HB3.out.size HK5.out.below.size) (fun k hk => (HV5.out.lt k hk).1))
    clear hown6 ho6
    refine ⟨HK6.out, ?_⟩
    simp only [List.getElem_toArray, List.getElem_cons_succ, List.getElem_cons_zero, Act.put, List.setIfInBounds_toArray, List.set_cons_zero, List.set_cons_succ]
    refine lexH_yieldE rfl rfl ?_
    apply Exists.intro
    refine ⟨fun W hW => ?_, ?_⟩
    focus (go_simp; exact rfl)
    simp only [List.getElem_toArray, List.getElem_cons_succ, List.getElem_cons_zero, Act.put, List.setIfInBounds_toArray, List.set_cons_zero, List.set_cons_succ]
    refine lexH_yieldE rfl rfl ?_
    apply Exists.intro
    refine ⟨fun W hW => ?_, ?_⟩
    focus (go_simp; exact rfl)
    simp only [List.getElem_toArray, List.getElem_cons_succ, List.getElem_cons_zero, Act.put, List.setIfInBounds_toArray, List.set_cons_zero, List.set_cons_succ]
    refine lexH_nil ?_
    go_wp2_with (fail)
    go_ret2
    exact .inl ⟨HMM.out, _, rfl, HV6.out.low (Nat.le_of_lt HZ.out), HB2.out.trans (HB6.out.mono (Nat.le_of_lt HZ.out))⟩
end
/-! calls, the landed: Read. -/
section
open Go.RowKit Go
attribute [local go_sem] Oper.semAt_some

theorem wrap_kin (z : Int) : -9223372036854775808 ≤ wrap64 z ∧ wrap64 z ≤ 9223372036854775807 := by
  unfold wrap64
  omega
theorem ofN_kin {k n : Nat} {f : Nat → Nat} (h : (ofN k f).Ok) (hn : n ≤ 2100) : KIn (ofN k f) n := by
  have z : (-9223372036854775808 : Int) ≤ 0 ∧ (0 : Int) ≤ 9223372036854775807 := by omega
  refine ⟨h, ?_, ?_, ?_, ?_, ?_, ?_, hn⟩ <;> (unfold ofN; split <;> first | exact z | exact wrap_kin _)
theorem recA_in {x : Nat → UInt8} {n r : Nat} (hr : r ≤ 2100) : KIn (recA x n) r := by
  have h := recA_ok x n
  unfold recA recQ at h ⊢
  exact ofN_kin h hr
theorem oneC (q : CallM) (a : Option Addr) (n c : Nat) : (q.cells a n c).all (·.oneCell') = true := by simp [Value.oneCell']
theorem eq_list {L : List UInt8} {x : Nat → UInt8} {n : Nat} : ((strB L.length fun i => L.getD i 0).toList == (strB n x).toList) = true ↔ L = lisX x n := by
  rw [beq_strB, lisX_self]
abbrev zK (k : Nat) : Array Value := #[.int .u8 (k : Int), .int .i64 0, .int .i64 0, .int .i64 0, .int .i64 0, .int .i64 0, .int .i64 0, .int .u8 0, .int .u8 0, .int .u8 0, .int .u64 0, .slice none 0 0]
set_option maxRecDepth 100000 in
set_option maxHeartbeats 16000000 in
theorem kread_any {g o n c : Nat} {a : Option Addr} {x : Nat → UInt8} {w : World} (hn : n ≤ 2030) (hnc : n ≤ c) (ha : 0 < n → a = some ⟨g, o, none⟩) (S : Src w (some ⟨g, o, none⟩) n x) (hF : FldAt w) : Calls Tryd.prog 17 #[.slice a n c] w (RdP w n x) := by
  have hb1 : Below w.heap.size w (w.alloc (.cells zC 29)) := (Below.refl _ _).alloc (Nat.le_refl _) _
  have hb2 : Below w.heap.size w ((w.alloc (.cells zC 29)).alloc (.cells #[.slice a n c] 27)) := hb1.alloc hb1.size _
  have HB0 := Lib.hid hb2
  have HF := Lib.hid hF
  have HS := Lib.hid S
  have HSA := Lib.hid (show Src w a n x from fun h0 => by
    obtain rfl := ha h0
    exact S h0)
  have hz1 : (w.alloc (.cells zC 29)).heap.size = w.heap.size + 1 := by simp
  have HZ0 := Lib.hid (show ((w.alloc (.cells zC 29)).alloc (.cells #[.slice a n c] 27)).heap.size = w.heap.size + 2 by simp)
  have HR0 := Lib.hid (show CallAt ((w.alloc (.cells zC 29)).alloc (.cells #[.slice a n c] 27)) w.heap.size (q0 0) none 0 0 from
    (show CallAt (w.alloc (.cells zC 29)) w.heap.size (q0 0) none 0 0 from heap_alloc_new w _).later ((Below.refl _ _).alloc (Nat.le_refl _) _))
  have HV0 := Lib.hid (show VarAt ((w.alloc (.cells zC 29)).alloc (.cells #[.slice a n c] 27)) (w.heap.size + 1) n 0 g o from by
    refine ⟨a, c, ?_, by omega, fun h0 => ?_⟩
    · have h := RowAt.new (w.alloc (.cells zC 29)) #[.slice a n c] 27 1 (fun _ => .slice a n c) (fun i hi => by obtain rfl : i = 0 := (by omega); rfl)
      rw [hz1] at h
      exact h
    · exact ha (by omega))
  have HN := Lib.hid hn
  have HKD := Lib.hid (show (kdQ x n) ≤ 255 from by unfold kdQ; omega)
  clear hb1 hb2 hn hnc ha S hF hz1
  go_enter Tryd.func17, Tryd.ntmps17
  go_wp2_with (fail)
  generalize (w.alloc (.cells zC 29)).alloc (.cells #[.slice a n c] 27) = w0 at *
  refine (HV0.out.next (HS.out.later HB0.out)).mono ?_
  rintro e w1 ⟨rfl, hv1, ho1, hs1⟩
  rw [HZ0.out] at hs1
  have HB1 := Lib.hid (ho1.below HB0.out HB0.out.size (fun k hk => by omega))
  have HR1 := Lib.hid (HR0.out.only ho1 (fun h => by omega))
  have HV1 := Lib.hid hv1
  have hkd : (numQ x n (8 * 0) : Int) % 256 = (kdQ x n : Int) := by
    show ((numQ x n 0 : Nat) : Int) % 256 = ((numQ x n 0 % 256 : Nat) : Int)
    omega
  generalize numQ x n (8 * 0) = N at *
  clear hv1 ho1 HB0 HR0 HV0 HZ0
  have hba : Below w1.heap.size w1 (w1.alloc (.cells (zK (kdQ x n)) 29)) := (Below.refl _ _).alloc (Nat.le_refl _) _
  have HB2 := Lib.hid (HB1.out.trans (hba.mono HB1.out.size))
  have HR2 := Lib.hid (HR1.out.later hba)
  have HV2 := Lib.hid (HV1.out.later hba)
  have HC2 := Lib.hid (show CallAt (w1.alloc (.cells (zK (kdQ x n)) 29)) (w.heap.size + 2) (q0 (kdQ x n)) none 0 0 from by
    have h := CallAt.new w1 (q0 (kdQ x n)) none 0 0
    rwa [hs1] at h)
  have hs2 : (w1.alloc (.cells (zK (kdQ x n)) 29)).heap.size = w.heap.size + 3 := by
    simp
    omega
  have k0 := HC2.out.cell 0 (v := .int .u8 (kdQ x n : Int)) rfl
  clear hba HB1 HR1 HV1
  go_wp2_with (fail)
  clear hs1 hkd
  generalize w1.alloc (.cells (zK (kdQ x n)) 29) = w2 at *
  have HS2 := Lib.hid hs2
  clear hs2
  refine (isKind_any (kdQ x n) HKD.out w2).mono ?_
  rintro e w3 ⟨rfl, rfl⟩
  cases hok : okK (kdQ x n) with
  | false =>
    have HOK := Lib.hid (show okC x n = false from by
      cases h : okC x n with
      | false => rfl
      | true => rw [(ok_rec.1 h).1] at hok; cases hok)
    clear hok k0
    have hth : w2.there w.heap.size 0 zC.size := HR2.out.there
    have hsz := sizeZ
    have hoz := oneZ
    go_wp2_with (first | (refine wpList_store_mid rfl 29 _ _ rfl w.heap.size 0 zC rfl rfl hth hsz hoz ?_) | fail)
    have HE2 := Lib.hid (show CallAt (w2.setCells w.heap.size 0 zC.toList) w.heap.size (q0 0) none 0 0 from HR2.out.lay (q0 0) none 0 0)
    have HE3 := Lib.hid ((Only.setCells (S := fun k => k = w.heap.size) (b := w.heap.size) rfl zC.toList 0 w2).below HB2.out HB2.out.size (fun k hk => by omega))
    refine bodyPost_ret (v := .tuple #[.agg ((q0 0).cells none 0 0), .int .i64 5]) ?_ rfl (.inr ⟨HOK.out, rfl, HE3.out⟩)
    exact results_cs rfl rfl rfl (load_callB HE2.out)
  | true =>
    have HOKK := Lib.hid hok
    have hk22 : kdQ x n < 22 := by have := of_decide_eq_true hok; omega
    have hk22I : (kdQ x n : Int) < 22 := by omega
    have kf : w2.cell? ⟨0, kdQ x n, none⟩ = some (.string (strN (letK (kdQ x n)))) := (HF.out.later HB2.out) _ hk22
    have HI0 := Lib.hid (show IterAt (w2.iter (strN (letK (kdQ x n))) 0) (w.heap.size + 3) (strN (letK (kdQ x n))) 0 from by
      have h := IterAt.new w2 (strN (letK (kdQ x n)))
      rwa [HS2.out] at h)
    have hbi := iter_below w2 (strN (letK (kdQ x n)))
    have HB3 := Lib.hid (HB2.out.trans (hbi.mono HB2.out.size))
    have HR3 := Lib.hid (HR2.out.later hbi)
    have HV3 := Lib.hid (HV2.out.later hbi)
    have HC3 := Lib.hid (show CallAt (w2.iter (strN (letK (kdQ x n))) 0) (w.heap.size + 2) (recQ (kdQ x n) x n 0) none 0 0 from by
      rw [rec_zero]
      exact HC2.out.later hbi)
    have HLK := Lib.hid (letK_lt (kdQ x n))
    have HLA := Lib.hid (letK_all (kdQ x n))
    have HRS := Lib.hid (fun p l (h : (letK (kdQ x n))[p]? = some l) => rec_step (x := x) (n := n) h)
    have HRA := Lib.hid (show recQ (kdQ x n) x n (letK (kdQ x n)).length = recA x n from rfl)
    have HAT := Lib.hid (show 8 * (0 + 1 + (letK (kdQ x n)).length) = atA x n from by unfold atA; omega)
    have hs2 := HS2.out
    clear hok hk22 hbi HB2 HR2 HV2 HC2
    generalize letK (kdQ x n) = LK at *
    go_wp2_with (fail)
    clear k0 kf
    generalize w2.iter (strN LK) 0 = wi at *
    go_loopw [7] (fun v wr => ∃ p : Nat, p ≤ LK.length ∧ Hid (IterAt wr (w.heap.size + 3) (strN LK) p) ∧ Hid (VarAt wr (w.heap.size + 1) n (0 + 1 + p) g o) ∧ Hid (CallAt wr (w.heap.size + 2) (recQ (kdQ x n) x n p) none 0 0) ∧ Hid (CallAt wr w.heap.size (q0 0) none 0 0) ∧ Hid (Below w.heap.size w wr)) (fun _ wr => LK.length - wr.iterPos (w.heap.size + 3))
    case atStart => exact ⟨0, Nat.zero_le _, HI0, HV3, HC3, HR3, HB3⟩
    case round =>
      clear HI0 HV3 HC3 HR3 HB3
      obtain ⟨p, hp, HI, HV, HC, HR, HB⟩ := hrel
      by_cases hlt : p < LK.length
      · obtain ⟨l, hl⟩ := at_letter hlt
        have HLT := Lib.hid hlt
        have HL := Lib.hid hl
        have HI0 := Lib.hid HI.out
        clear hlt hp hl
        go_wp2_with (first | (refine wpList_next_more wr rfl _ rfl (w.heap.size + 3) LK HLK.out p l HL.out rfl HI.out ?_; intro w4 hi4 ho4 hs4) | fail)
        have HI4 := Lib.hid hi4
        have HB4 := Lib.hid (ho4.below HB.out HB.out.size (fun k hk => by omega))
        have HV4 := Lib.hid (HV.out.only ho4 (fun h => by omega))
        have HC4 := Lib.hid (HC.out.only ho4 (fun h => by omega))
        have HR4 := Lib.hid (HR.out.only ho4 (fun h => by omega))
        clear hi4 ho4 hs4 HI HV HC HR HB
        refine (HV4.out.next (HS.out.later HB4.out)).mono ?_
        rintro e w5 ⟨rfl, hv5, ho5, hs5⟩
        have HI5 := Lib.hid (HI4.out.only ho5 (fun h => by omega))
        have HB5 := Lib.hid (ho5.below HB4.out HB4.out.size (fun k hk => by omega))
        have HV5 := Lib.hid hv5
        have HC5 := Lib.hid (HC4.out.only ho5 (fun h => by omega))
        have HR5 := Lib.hid (HR4.out.only ho5 (fun h => by omega))
        have HQS := Lib.hid (show putC (recQ (kdQ x n) x n p) l (numQ x n (8 * (0 + 1 + p))) = recQ (kdQ x n) x n (p + 1) from by
          rw [show 8 * (0 + 1 + p) = 8 + 8 * p by omega]
          exact HRS.out p l HL.out)
        generalize numQ x n (8 * (0 + 1 + p)) = N at *
        clear hv5 ho5 hs5 HI4 HV4 HC4 HR4 HB4
        go_wp2_with (fail)
        refine (put_l HC5.out (HLA.out l (List.mem_of_getElem? HL.out)) N).mono ?_
        rintro e w6 ⟨rfl, hc6, ho6, hs6⟩
        rw [HQS.out] at hc6
        have HI6 := Lib.hid (HI5.out.only ho6 (fun h => by omega))
        have HB6 := Lib.hid (ho6.below HB5.out HB5.out.size (fun k hk => by omega))
        have HV6 := Lib.hid (HV5.out.only ho6 (fun h => by omega))
        have HC6 := Lib.hid hc6
        have HR6 := Lib.hid (HR5.out.only ho6 (fun h => by omega))
        clear hc6 ho6 hs6 HI5 HV5 HC5 HR5 HB5
        go_wp2_with (fail)
        go_roundw
        case rel => exact ⟨p + 1, HLT.out, HI6, HV6, HC6, HR6, HB6⟩
        case measure => exact iter_left HI0.out HI6.out (Nat.lt_succ_self _) HLT.out
      · obtain rfl : p = LK.length := by omega
        clear hlt hp
        rw [HRA.out] at HC
        obtain ⟨ra, rc, kv, hsr⟩ := HV.out.src x
        rw [HAT.out] at kv hsr
        have HSR := Lib.hid hsr
        have hr : n - atA x n ≤ 2030 := by have := HN.out; omega
        have HRL := Lib.hid hr
        have k11 := HC.out.cell 11 (v := .slice none 0 0) rfl
        have hfz := HC.out.frozen 11
        have HC7 := Lib.hid (HC.out.set (r := recA x n) (a2 := ra) (n2 := n - atA x n) (c2 := rc) 11 (.slice ra (n - atA x n) rc) rfl)
        have ho7 := Only.setCell (S := fun k => k = w.heap.size + 2) wr ⟨w.heap.size + 2, 11, none⟩ rfl (.slice ra (n - atA x n) rc)
        have HB7 := Lib.hid (ho7.below HB.out HB.out.size (fun k hk => by omega))
        have HR7 := Lib.hid (HR.out.only ho7 (fun h => by omega))
        have HV7 := Lib.hid (show (wr.setCell ⟨w.heap.size + 2, 11, none⟩ (.slice ra (n - atA x n) rc)).cell? ⟨w.heap.size + 1, 0, none⟩ = some (.slice ra (n - atA x n) rc) from ho7.cell (fun h => by omega) kv)
        clear hsr hr ho7
        generalize hr : n - atA x n = r at *
        go_wp2_with (first | (refine wpList_next_end wr rfl _ rfl (w.heap.size + 3) LK rfl HI.out ?_) | (refine wpList_load_call rfl (.tmp 5) rfl (w.heap.size + 2) rfl HC7.out ?_) | fail)
        refine (kbytes_any (recA_in (x := x) (n := n) (r := r) (by have := HRL.out; omega)) (HF.out.later HB7.out) (HSR.out _ (HS.out.later HB7.out))).mono ?_
        have HOKE := Lib.hid (show okC x n = true ↔ okK (kdQ x n) = true ∧ mayC (recA x n) r = true ∧ callL (recA x n) (shX x (atA x n)) r = lisX x n from by rw [← hr]; exact ok_rec)
        have HQE := Lib.hid hr
        clear k11 hfz kv hs2 hk22I hr
        rintro e w8 (⟨hm, v, rfl, hby, hb8⟩ | ⟨hm, fa, fc, rfl, hb8⟩)
        · obtain ⟨gb, cap, rfl, hcl, hcm, hbg, hsy⟩ := byt_slice hby (by have := callL_pos (recA x n) (shX x (atA x n)) r; omega)
          have HM := Lib.hid hm
          have HSY := Lib.hid hsy
          have HB8 := Lib.hid (HB7.out.trans (hb8.mono HB7.out.size))
          have HC8 := Lib.hid (HC7.out.later hb8)
          have HR8 := Lib.hid (HR7.out.later hb8)
          have kv8 := (hb8.cell (p := ⟨w.heap.size + 1, 0, none⟩) (World.block_lt_of_cell? _ _ HV7.out)).trans HV7.out
          clear hm hby hcl hcm hbg hsy hb8 HC7 HR7 HV7 HB7
          generalize wr.setCell ⟨w.heap.size + 2, 11, none⟩ (.slice ra r rc) = w7 at *
          generalize hL : callL (recA x n) (shX x (atA x n)) r = L at *
          clear hL
          go_wp2_with (fail)
          refine (beq_any HSY.out (HSA.out.later HB8.out)).mono ?_
          rintro e w9 ⟨rfl, rfl⟩
          cases hq : ((strB L.length fun i => L.getD i 0).toList == (strB n x).toList) with
          | true =>
            have HOK := Lib.hid (HOKE.out.2 ⟨HOKK.out, HM.out, eq_list.1 hq⟩)
            clear hq
            go_wp2_with (fail)
            refine (own_any (HSR.out _ (HS.out.later HB8.out)) (by have := HRL.out; omega)).mono ?_
            rintro e w9 ⟨v9, rfl, h9, hb9⟩
            have HB9 := Lib.hid (HB8.out.trans (hb9.mono HB8.out.size))
            have HC9 := Lib.hid (HC8.out.later hb9)
            have HR9 := Lib.hid (HR8.out.later hb9)
            obtain ⟨a9, c9, e9, -⟩ := h9.there
            rw [lisX_len] at e9
            subst e9
            have H9 := Lib.hid h9
            have k11 := HC9.out.cell 11 (v := .slice ra r rc) rfl
            have hfz := HC9.out.frozen 11
            have HC10 := Lib.hid (HC9.out.set (r := recA x n) (a2 := a9) (n2 := r) (c2 := c9) 11 (.slice a9 r c9) rfl)
            have ho10 := Only.setCell (S := fun k => k = w.heap.size + 2) w9 ⟨w.heap.size + 2, 11, none⟩ rfl (.slice a9 r c9)
            have HB10 := Lib.hid (ho10.below HB9.out HB9.out.size (fun k hk => by omega))
            have HR10 := Lib.hid (HR9.out.only ho10 (fun h => by omega))
            have HO10 := Lib.hid ho10
            have hth : (w9.setCell ⟨w.heap.size + 2, 11, none⟩ (.slice a9 r c9)).there w.heap.size 0 ((recA x n).cells a9 r c9).size := HR10.out.there
            have hsz : (Tryd.prog.info? 29).map (·.size) = some ((recA x n).cells a9 r c9).size := sizeCall
            have hoz := oneC (recA x n) a9 r c9
            clear hb9 kv8 ho10 h9
            go_wp2_with (first | (refine wpList_load_call rfl (.tmp 5) rfl (w.heap.size + 2) rfl HC10.out ?_) | (refine wpList_store_mid rfl 29 _ _ rfl w.heap.size 0 ((recA x n).cells a9 r c9) rfl rfl hth hsz hoz ?_) | fail)
            have hlt8 := HC8.out.lt
            have ho11 := Only.setCells (S := fun k => k = w.heap.size) (b := w.heap.size) rfl ((recA x n).cells a9 r c9).toList 0 (w9.setCell ⟨w.heap.size + 2, 11, none⟩ (.slice a9 r c9))
            have h10 := (H9.out.only HO10.out (fun k hk e => by have := (H9.out.lt k hk).1; omega)).only ho11 (fun k hk e => by have := (H9.out.lt k hk).1; omega)
            have HE := HR10.out.lay (recA x n) a9 r c9
            have HB11 := ho11.below HB10.out HB10.out.size (fun k hk => by omega)
            obtain ⟨e1, e2, e3, e4⟩ := okC_rec HOK.out
            refine bodyPost_ret (v := .tuple #[.agg ((recA x n).cells a9 r c9), .int .i64 0]) ?_ rfl (.inl ⟨HOK.out, a9, c9, by rw [e2, e3, HQE.out], ?_, HB11⟩)
            · exact results_cs rfl rfl rfl (load_callB HE)
            · rw [e3, HQE.out]
              exact (src_byt h10).same (fun j hj => e4 j (by rw [e3, HQE.out]; exact hj))
          | false =>
            have HOK := Lib.hid (show okC x n = false from by
              cases h : okC x n with
              | false => rfl
              | true =>
                have h2 := eq_list.2 (HOKE.out.1 h).2.2
                rw [h2] at hq
                cases hq)
            clear hq
            have hth : w8.there w.heap.size 0 zC.size := HR8.out.there
            have hsz := sizeZ
            have hoz := oneZ
            go_wp2_with (first | (refine wpList_store_mid rfl 29 _ _ rfl w.heap.size 0 zC rfl rfl hth hsz hoz ?_) | fail)
            have HE2 := Lib.hid (show CallAt (w8.setCells w.heap.size 0 zC.toList) w.heap.size (q0 0) none 0 0 from HR8.out.lay (q0 0) none 0 0)
            have HE3 := Lib.hid ((Only.setCells (S := fun k => k = w.heap.size) (b := w.heap.size) rfl zC.toList 0 w8).below HB8.out HB8.out.size (fun k hk => by omega))
            refine bodyPost_ret (v := .tuple #[.agg ((q0 0).cells none 0 0), .int .i64 5]) ?_ rfl (.inr ⟨HOK.out, rfl, HE3.out⟩)
            exact results_cs rfl rfl rfl (load_callB HE2.out)
        · have HOK := Lib.hid (show okC x n = false from by
            cases h : okC x n with
            | false => rfl
            | true => rw [(HOKE.out.1 h).2.1] at hm; cases hm)
          have HB8 := Lib.hid (HB7.out.trans (hb8.mono HB7.out.size))
          have HR8 := Lib.hid (HR7.out.later hb8)
          clear hm hb8
          have hth : w8.there w.heap.size 0 zC.size := HR8.out.there
          have hsz := sizeZ
          have hoz := oneZ
          go_wp2_with (first | (refine wpList_store_mid rfl 29 _ _ rfl w.heap.size 0 zC rfl rfl hth hsz hoz ?_) | fail)
          have HE2 := Lib.hid (show CallAt (w8.setCells w.heap.size 0 zC.toList) w.heap.size (q0 0) none 0 0 from HR8.out.lay (q0 0) none 0 0)
          have HE3 := Lib.hid ((Only.setCells (S := fun k => k = w.heap.size) (b := w.heap.size) rfl zC.toList 0 w8).below HB8.out HB8.out.size (fun k hk => by omega))
          refine bodyPost_ret (v := .tuple #[.agg ((q0 0).cells none 0 0), .int .i64 5]) ?_ rfl (.inr ⟨HOK.out, rfl, HE3.out⟩)
          exact results_cs rfl rfl rfl (load_callB HE2.out)
end
/-! calls, the landed: ReadResult. -/
section
open Go.RowKit Go
attribute [local go_sem] Oper.semAt_some

theorem okX_ext {x y : Nat → UInt8} {n : Nat} (h : ∀ i, i < n → x i = y i) : okX x n = okX y n := by
  unfold okX
  rw [numX_ext h, numX_ext h]
  by_cases h24 : 24 ≤ n
  · have e1 : resL (numX y n 0) (numX y n 8) (shX x 24) (n - 24) = resL (numX y n 0) (numX y n 8) (shX y 24) (n - 24) := resL_ext fun j hj => h _ (by omega)
    rw [e1]
    congr 3
    rw [Bool.eq_iff_iff]
    unfold strL
    rw [beq_strB, beq_strB, lisX_ext h]
  · rw [decide_eq_false h24, Bool.false_and, Bool.false_and]
/-- What is read as a result. -/
def erA (x : Nat → UInt8) (n : Nat) : Int := wrap64 (numQ x n 0 : Int)
theorem wrap_small {z : Nat} (h : z ≤ 999) : wrap64 (z : Int) = z := by
  unfold wrap64
  omega
theorem okX_rec {x : Nat → UInt8} {n : Nat} (h : okX x n = true) : (numX x n 0 : Int) = erA x n ∧ numX x n 8 = numQ x n 8 := by
  obtain ⟨h1, h2, h3, h4⟩ := okX_parts h
  unfold erA numQ
  rw [if_pos (by omega), if_pos (by omega), wrap_small h1]
  exact ⟨rfl, rfl⟩
theorem ok_res {x : Nat → UInt8} {n : Nat} : okX x n = true ↔ mayRs (erA x n) (numQ x n 8) (n - 24) = true ∧ resL (erA x n).toNat (numQ x n 8) (shX x 24) (n - 24) = lisX x n := by
  constructor
  · intro h
    obtain ⟨h1, h2, h3, h4⟩ := okX_parts h
    obtain ⟨e1, e2⟩ := okX_rec h
    rw [e1, e2] at h3
    rw [e2] at h4
    rw [← e1, Int.toNat_natCast]
    rw [← e1] at h3
    exact ⟨h3, h4⟩
  · rintro ⟨hm, hc⟩
    obtain ⟨e0, he, h9, h8⟩ := rs_parts hm
    rw [he] at hm hc
    rw [Int.toNat_natCast] at hc
    obtain ⟨_, _, _, _, hok⟩ := res_back h9 (numQ_lt x n 8) (x := shX x 24) hm
    rw [hc, lisX_len] at hok
    rw [← hok]
    exact okX_ext fun i hi => by rw [List.getD_eq_getElem?_getD, lisX_get hi]; rfl
theorem resL_pos (e v : Nat) (x : Nat → UInt8) (n : Nat) : 0 < (resL e v x n).length := by
  rw [resL_len]
  omega
theorem oneR (e : Int) (v : Nat) (a : Option Addr) (n c : Nat) : (rsA e v a n c).all (·.oneCell') = true := by simp [Value.oneCell']
set_option maxRecDepth 100000 in
set_option maxHeartbeats 16000000 in
theorem kreadr_any {g o n c : Nat} {a : Option Addr} {x : Nat → UInt8} {w : World} (hn : n ≤ 2030) (hnc : n ≤ c) (ha : 0 < n → a = some ⟨g, o, none⟩) (S : Src w (some ⟨g, o, none⟩) n x) : Calls Tryd.prog 20 #[.slice a n c] w (RrP w n x) := by
  have hb1 : Below w.heap.size w (w.alloc (.cells (rsA 0 0 none 0 0) 41)) := res_box w 0 0 none 0 0
  have hb2 : Below w.heap.size w ((w.alloc (.cells (rsA 0 0 none 0 0) 41)).alloc (.cells #[.slice a n c] 27)) := hb1.alloc hb1.size _
  have HB0 := Lib.hid hb2
  have HS := Lib.hid S
  have HSA := Lib.hid (show Src w a n x from fun h0 => by
    obtain rfl := ha h0
    exact S h0)
  have hz1 : (w.alloc (.cells (rsA 0 0 none 0 0) 41)).heap.size = w.heap.size + 1 := by simp
  have HZ0 := Lib.hid (show ((w.alloc (.cells (rsA 0 0 none 0 0) 41)).alloc (.cells #[.slice a n c] 27)).heap.size = w.heap.size + 2 by simp)
  have HR0 := Lib.hid (show ResAt ((w.alloc (.cells (rsA 0 0 none 0 0) 41)).alloc (.cells #[.slice a n c] 27)) w.heap.size 0 0 none 0 0 from
    (ResAt.new w 0 0 none 0 0).later ((Below.refl _ _).alloc (Nat.le_refl _) _))
  have HV0 := Lib.hid (show VarAt ((w.alloc (.cells (rsA 0 0 none 0 0) 41)).alloc (.cells #[.slice a n c] 27)) (w.heap.size + 1) n 0 g o from by
    refine ⟨a, c, ?_, by omega, fun h0 => ?_⟩
    · have h := RowAt.new (w.alloc (.cells (rsA 0 0 none 0 0) 41)) #[.slice a n c] 27 1 (fun _ => .slice a n c) (fun i hi => by obtain rfl : i = 0 := (by omega); rfl)
      rw [hz1] at h
      exact h
    · exact ha (by omega))
  have HN := Lib.hid hn
  have HVL := Lib.hid (numQ_lt x n 8)
  clear hb1 hb2 hn hnc ha S hz1
  go_enter Tryd.func20, Tryd.ntmps20
  go_wp2_with (fail)
  generalize (w.alloc (.cells (rsA 0 0 none 0 0) 41)).alloc (.cells #[.slice a n c] 27) = w0 at *
  refine (HV0.out.next (HS.out.later HB0.out)).mono ?_
  rintro e w1 ⟨rfl, hv1, ho1, hs1⟩
  have HZ1 := Lib.hid (hs1.trans HZ0.out)
  have HB1 := Lib.hid (ho1.below HB0.out HB0.out.size (fun k hk => by omega))
  have HR1 := Lib.hid (HR0.out.only ho1 (fun h => by omega))
  have HV1 := Lib.hid hv1
  have HEA := Lib.hid (show wrap64 (numQ x n (8 * 0) : Int) = erA x n from rfl)
  generalize numQ x n (8 * 0) = N0 at *
  clear hv1 ho1 hs1 HB0 HR0 HV0 HZ0
  go_wp2_with (fail)
  refine (HV1.out.next (HS.out.later HB1.out)).mono ?_
  rintro e w2 ⟨rfl, hv2, ho2, hs2⟩
  have HZ2 := Lib.hid (hs2.trans HZ1.out)
  have HB2 := Lib.hid (ho2.below HB1.out HB1.out.size (fun k hk => by omega))
  have HR2 := Lib.hid (HR1.out.only ho2 (fun h => by omega))
  have HV2 := Lib.hid hv2
  have HVA := Lib.hid (show numQ x n (8 * (0 + 1)) = numQ x n 8 from rfl)
  rw [HVA.out]
  clear HVA
  generalize hq8 : numQ x n 8 = v0 at *
  have HQ8 := Lib.hid hq8
  clear hq8 hv2 ho2 hs2 HB1 HR1 HV1 HZ1
  go_wp2_with (fail)
  refine (HV2.out.next (HS.out.later HB2.out)).mono ?_
  rintro e w3 ⟨rfl, hv3, ho3, hs3⟩
  rw [HZ2.out] at hs3
  have HB3 := Lib.hid (ho3.below HB2.out HB2.out.size (fun k hk => by omega))
  have HR3 := Lib.hid (HR2.out.only ho3 (fun h => by omega))
  obtain ⟨ra, rc, kv, hsr⟩ := hv3.src x
  rw [show n - 8 * (0 + 1 + 1 + 1) = n - 24 by omega, show 8 * (0 + 1 + 1 + 1) = 24 from rfl] at *
  have HSR := Lib.hid hsr
  have HRL := Lib.hid (show n - 24 ≤ 2006 by have := HN.out; omega)
  have hea := HEA.out
  have hba : Below w3.heap.size w3 (w3.alloc (.cells (rsA (erA x n) v0 ra (n - 24) rc) 41)) := res_box _ _ _ _ _ _
  have HB7 := Lib.hid (HB3.out.trans (hba.mono HB3.out.size))
  have HR7 := Lib.hid (HR3.out.later hba)
  have HC7 := Lib.hid (show ResAt (w3.alloc (.cells (rsA (erA x n) v0 ra (n - 24) rc) 41)) (w.heap.size + 2) (erA x n) v0 ra (n - 24) rc from by
    have h := ResAt.new w3 (erA x n) v0 ra (n - 24) rc
    rwa [hs3] at h)
  have HV7 := Lib.hid ((hba.cell (p := ⟨w.heap.size + 1, 0, none⟩) (World.block_lt_of_cell? _ _ kv)).trans kv)
  have HOKE := Lib.hid (show okX x n = true ↔ mayRs (erA x n) v0 (n - 24) = true ∧ resL (erA x n).toNat v0 (shX x 24) (n - 24) = lisX x n from by
    have h := ok_res (x := x) (n := n)
    rwa [HQ8.out] at h)
  generalize hr : n - 24 = r at *
  have HQE := Lib.hid hr
  clear hr hv3 ho3 hsr hba HB2 HR2 HV2 HZ2 HR3
  go_wp2_with (first | (refine wpList_load_rsk rfl (.tmp 7) rfl (w.heap.size + 2) rfl HC7.out ?_) | fail)
  generalize w3.alloc (.cells (rsA (erA x n) v0 ra r rc) 41) = w7 at *
  clear hs3 kv hea
  refine (kresb_any (by have := HRL.out; omega) HVL.out (HSR.out _ (HS.out.later HB7.out))).mono ?_
  rintro e w8 (⟨hm, v, rfl, hby, hb8⟩ | ⟨hm, fa, fc, rfl, hb8⟩)
  · obtain ⟨gb, cap, rfl, hcl, hcm, hbg, hsy⟩ := byt_slice hby (resL_pos _ _ _ _)
    have HM := Lib.hid hm
    have HSY := Lib.hid hsy
    have HB8 := Lib.hid (HB7.out.trans (hb8.mono HB7.out.size))
    have HC8 := Lib.hid (HC7.out.later hb8)
    have HR8 := Lib.hid (HR7.out.later hb8)
    have kv8 := (hb8.cell (p := ⟨w.heap.size + 1, 0, none⟩) (World.block_lt_of_cell? _ _ HV7.out)).trans HV7.out
    clear hm hby hcl hcm hbg hsy hb8 HC7 HR7 HV7 HB7
    generalize hL : resL (erA x n).toNat v0 (shX x 24) r = L at *
    clear hL
    go_wp2_with (fail)
    refine (beq_any HSY.out (HSA.out.later HB8.out)).mono ?_
    rintro e w9 ⟨rfl, rfl⟩
    cases hq : ((strB L.length fun i => L.getD i 0).toList == (strB n x).toList) with
    | true =>
      have HOK := Lib.hid (HOKE.out.2 ⟨HM.out, eq_list.1 hq⟩)
      clear hq
      go_wp2_with (fail)
      refine (own_any (HSR.out _ (HS.out.later HB8.out)) (by have := HRL.out; omega)).mono ?_
      rintro e w9 ⟨v9, rfl, h9, hb9⟩
      have HB9 := Lib.hid (HB8.out.trans (hb9.mono HB8.out.size))
      have HC9 := Lib.hid (HC8.out.later hb9)
      have HR9 := Lib.hid (HR8.out.later hb9)
      obtain ⟨a9, c9, e9, -⟩ := h9.there
      rw [lisX_len] at e9
      subst e9
      have H9 := Lib.hid h9
      have k2 := HC9.out.cell 2 (u := .slice ra r rc) rfl
      have hfz := HC9.out.frozen 2
      have HC10 := Lib.hid (HC9.out.set (e2 := erA x n) (v2 := v0) (a2 := a9) (n2 := r) (c2 := c9) 2 (.slice a9 r c9) rfl)
      have ho10 := Only.setCell (S := fun k => k = w.heap.size + 2) w9 ⟨w.heap.size + 2, 2, none⟩ rfl (.slice a9 r c9)
      have HB10 := Lib.hid (ho10.below HB9.out HB9.out.size (fun k hk => by omega))
      have HR10 := Lib.hid (HR9.out.only ho10 (fun h => by omega))
      have HO10 := Lib.hid ho10
      have hth : (w9.setCell ⟨w.heap.size + 2, 2, none⟩ (.slice a9 r c9)).there w.heap.size 0 (rsA (erA x n) v0 a9 r c9).size := HR10.out.there
      have hsz : (Tryd.prog.info? 41).map (·.size) = some (rsA (erA x n) v0 a9 r c9).size := sizeRes
      have hoz := oneR (erA x n) v0 a9 r c9
      clear hb9 kv8 ho10 h9
      go_wp2_with (first | (refine wpList_load_rsk rfl (.tmp 7) rfl (w.heap.size + 2) rfl HC10.out ?_) | (refine wpList_store_mid rfl 41 _ _ rfl w.heap.size 0 (rsA (erA x n) v0 a9 r c9) rfl rfl hth hsz hoz ?_) | fail)
      have hlt8 := HC8.out.lt
      have ho11 := Only.setCells (S := fun k => k = w.heap.size) (b := w.heap.size) rfl (rsA (erA x n) v0 a9 r c9).toList 0 (w9.setCell ⟨w.heap.size + 2, 2, none⟩ (.slice a9 r c9))
      have h10 := (H9.out.only HO10.out (fun k hk e => by have := (H9.out.lt k hk).1; omega)).only ho11 (fun k hk e => by have := (H9.out.lt k hk).1; omega)
      have HE := HR10.out.lay (erA x n) v0 a9 r c9
      have HB11 := ho11.below HB10.out HB10.out.size (fun k hk => by omega)
      obtain ⟨e1, e2⟩ := okX_rec HOK.out
      refine bodyPost_ret (v := .tuple #[rsV (erA x n) v0 a9 r c9, .int .i64 0]) ?_ rfl (.inl ⟨HOK.out, a9, c9, by rw [e1, e2, HQE.out, HQ8.out], ?_, HB11⟩)
      · exact results_cs rfl rfl rfl HE.load
      · rw [HQE.out]
        exact src_byt h10
    | false =>
      have HOK := Lib.hid (show okX x n = false from by
        cases h : okX x n with
        | false => rfl
        | true =>
          have h2 := eq_list.2 (HOKE.out.1 h).2
          rw [h2] at hq
          cases hq)
      clear hq
      have hth : w8.there w.heap.size 0 (rsA 0 0 none 0 0).size := HR8.out.there
      have hsz : (Tryd.prog.info? 41).map (·.size) = some (rsA 0 0 none 0 0).size := sizeRes
      have hoz := oneR 0 0 none 0 0
      go_wp2_with (first | (refine wpList_store_mid rfl 41 _ _ rfl w.heap.size 0 (rsA 0 0 none 0 0) rfl rfl hth hsz hoz ?_) | fail)
      have HE2 := Lib.hid (HR8.out.lay 0 0 none 0 0)
      have HE3 := Lib.hid ((Only.setCells (S := fun k => k = w.heap.size) (b := w.heap.size) rfl (rsA 0 0 none 0 0).toList 0 w8).below HB8.out HB8.out.size (fun k hk => by omega))
      refine bodyPost_ret (v := .tuple #[rsV 0 0 none 0 0, .int .i64 5]) ?_ rfl (.inr ⟨HOK.out, rfl, HE3.out⟩)
      exact results_cs rfl rfl rfl HE2.out.load
  · have HOK := Lib.hid (show okX x n = false from by
      cases h : okX x n with
      | false => rfl
      | true => rw [(HOKE.out.1 h).1] at hm; cases hm)
    have HB8 := Lib.hid (HB7.out.trans (hb8.mono HB7.out.size))
    have HR8 := Lib.hid (HR7.out.later hb8)
    clear hm hb8
    have hth : w8.there w.heap.size 0 (rsA 0 0 none 0 0).size := HR8.out.there
    have hsz : (Tryd.prog.info? 41).map (·.size) = some (rsA 0 0 none 0 0).size := sizeRes
    have hoz := oneR 0 0 none 0 0
    go_wp2_with (first | (refine wpList_store_mid rfl 41 _ _ rfl w.heap.size 0 (rsA 0 0 none 0 0) rfl rfl hth hsz hoz ?_) | fail)
    have HE2 := Lib.hid (HR8.out.lay 0 0 none 0 0)
    have HE3 := Lib.hid ((Only.setCells (S := fun k => k = w.heap.size) (b := w.heap.size) rfl (rsA 0 0 none 0 0).toList 0 w8).below HB8.out HB8.out.size (fun k hk => by omega))
    refine bodyPost_ret (v := .tuple #[rsV 0 0 none 0 0, .int .i64 5]) ?_ rfl (.inr ⟨HOK.out, rfl, HE3.out⟩)
    exact results_cs rfl rfl rfl HE2.out.load
end
/-! calls: the landed calls are what the laws want. -/
section
open Go.RowKit Go

theorem cs_ok : CsOk FldAt where
  later := fun h hb => h.later hb
  may := fun {q a n c x w} hF hI _ => by
    have h := kmay_any (NumOk.of (KIn.of hI)) hI.ok.kind a c hF
    rw [may_eq (KIn.of hI)] at h
    exact h
  bytes := fun hF hI S => kbytes_any (KIn.of hI) hF S
  read := fun hF hn hc _ S => kread_any hn hc (fun _ => rfl) S hF
  read0 := fun hF => kread_any (g := 0) (o := 0) (by decide) (Nat.zero_le _) (fun h => absurd h (by decide)) (Src.nil _ _ _) hF
  same := fun {q r a b n c m d x1 x2 w} hI hJ S R => by
    have h := ksame_any (NumOk.of (KIn.of hI)) (NumOk.of (KIn.of hJ)) (c := c) (d := d) S R
    rw [same_eq (KIn.of hI) (KIn.of hJ)] at h
    exact h
  wrong := fun hF hA hI _ => kwrong_any hF hA (KIn.of hI)
  mayr := fun {e v a n c w} hn _ _ _ => kmayr_any e v a n c (by omega) w
  resb := fun hn _ _ hv S => kresb_any (by omega) hv S
  readr := fun hn hc _ S => kreadr_any hn hc (fun _ => rfl) S
  readr0 := kreadr_any (g := 0) (o := 0) (by decide) (Nat.zero_le _) (fun h => absurd h (by decide)) (Src.nil _ _ _)
  samer := fun _ _ S R => ksamer_any S R
end
end Go.Proofs.YtkmjkkeldbocdaaDoor
