/-
  table's laws: known; whatever the table.
-/
import Derived.Test.YtnjdcgjaffageaaTbLeast
import Derived.Test.YtnjdcgjaffageaaTbRef
namespace Go.Proofs.Ytnjdcgjaffageaa
open Go.RowKit Go.Shelf Go
attribute [local go_sem] Oper.semAt_some

theorem eq_ent (a b c d : Int) (W : World) : (binOp .eql TEnt (.agg #[.int .u8 a, .int .i64 b]) (.agg #[.int .u8 c, .int .i64 d])).run Try.prog W = .ok (.bool (a == c && b == d)) W := by
  by_cases h1 : a = c <;> by_cases h2 : b = d <;> simp [go_sem, h1, h2]
section
variable {IsT : Thg → Nat → (Nat → Nat) → (Nat → Nat → Ent) → Prop} (ok : TabOk IsT) {w0 w w' : World} {m : Nat} {R : Nat → Nat} {E : Nat → Nat → Ent}
theorem word_I (wk : WordOk) (w : World) (k : Nat) (ki n : Int) (v : Nat) (e : Int) (ek : ki = k) (hk : k < 256) (hn : InI n) (hv : wordV (k, n) = v) (he : wordE (k, n) = e) : Calls Try.prog 6 #[.agg #[.int .u8 ki, .int .i64 n]] w fun x w' =>
    x = .returned (.tuple #[.int .u64 v, .int .i64 e]) ∧ Below w.heap.size w w' := by
  subst ek; subst hv; subst he
  exact wk.word w k n hk hn
theorem entry_I (wk : WordOk) (w : World) (x : Nat) (xi : Int) (k : Nat) (n e : Int) (ex : xi = x) (hx : x < 18446744073709551616) (hv : entV x = (k, n)) (he : entE x = e) : Calls Try.prog 8 #[.int .u64 xi] w fun y w' =>
    y = .returned (.tuple #[.agg #[.int .u8 k, .int .i64 n], .int .i64 e]) ∧ Below w.heap.size w w' := by
  subst ex; subst he
  have h := wk.entry w x hx
  rw [hv] at h
  exact h
include ok
theorem set_mkE (h : MK IsT w0 m R E w) (p ki : Int) (k : Nat) (n : Int) (ek : ki = k) (hp : InI p) (hk : k < 256) (hn : InI n) (c : Int) (E2 : Nat → Nat → Ent)
    (hc : (if Pg p ∧ entOk (k, n) then (if R (p.toNat / 32) = 0 then 7 else 0) else 2) = c) (hE : (if Pg p ∧ entOk (k, n) ∧ R (p.toNat / 32) ≠ 0 then setX E (R (p.toNat / 32)) (p.toNat % 32) (k, n) else E) = E2) :
    Calls Try.prog 14 #[.pointer (some ⟨m, 0, none⟩), .int .i64 0, .int .i64 p, .agg #[.int .u8 ki, .int .i64 n]] w fun e w' =>
    e = .returned (.int .i64 c) ∧ MK IsT w0 m R E2 w' := by
  subst hc; subst hE
  exact set_mk ok h p ki k n ek hp hk hn
theorem setLeaf_mkE (h : MK IsT w0 m R E w) (p li : Int) (l : Nat) (hp : InI p) (hl : l ≤ 3) (e : li = if l = 0 then -1 else (l : Int)) (c : Int) (R2 : Nat → Nat) (hc : (if Pg p then 0 else 2) = c) (hR : (if Pg p then setR R (p.toNat / 32) l else R) = R2) :
    Calls Try.prog 13 #[.pointer (some ⟨m, 0, none⟩), .int .i64 0, .int .i64 p, .int .i64 li] w fun e w' =>
    e = .returned (.int .i64 c) ∧ MK IsT w0 m R2 E w' := by
  subst hc; subst hR
  exact setLeaf_mk ok h p li l hp hl e
set_option maxRecDepth 100000 in
set_option maxHeartbeats 4000000 in
theorem known_any (w : World) : Calls Try.prog 10 #[] w fun e w' => e = .returned (.bool true) ∧ Below w.heap.size w w' := by
  have hq := eq_ent
  go_enter Try.func10, Try.ntmps10
  go_wp2_with (fail)
  refine (four_any w).mono ?_
  rintro e w1 ⟨A, rfl, hA, hb⟩
  have HB1 := Lib.hid hb
  clear hb
  go_wp2_with (fail)
  refine (made_mk ok w1 A hA).mono ?_
  rintro e w2 ⟨m, rfl, hK⟩
  have HK2 := Lib.hid hK
  clear hK hA
  go_wp2_with (fail)
  refine (word_I ok.toWordOk w2 1 1 5 21 0 rfl (by decide) (by decide) (by decide) (by decide)).mono ?_
  rintro e w3 ⟨rfl, hb⟩
  have HK3 := Lib.hid (HK2.out.later hb)
  clear hb HK2
  go_wp2_with (fail)
  refine (entry_I ok.toWordOk w3 4 4 0 0 5 rfl (by decide) (by decide) (by decide)).mono ?_
  rintro e w4 ⟨rfl, hb⟩
  have HK4 := Lib.hid ((HK3.out.later hb).later ((Below.refl _ _).alloc (Nat.le_refl _) (.cells #[.int .u8 0, .int .i64 0] 23)))
  clear hb HK3
  go_wp2_with (fail)
  refine (set_mkE ok HK4.out 40 1 1 3 rfl (by decide) (by decide) (by decide) 7 (fun _ _ => (0, 0)) (by decide) (if_neg (by decide))).mono ?_
  rintro e w5 ⟨rfl, hK⟩
  have HK5 := Lib.hid hK
  clear hK HK4
  go_wp2_with (fail)
  refine (setLeaf_mkE ok HK5.out 40 2 2 (by decide) (by decide) rfl 0 (setR (fun _ => 0) 1 2) (by decide) rfl).mono ?_
  rintro e w6 ⟨rfl, hK⟩
  have HK6 := Lib.hid hK
  clear hK HK5
  go_wp2_with (fail)
  refine (set_mkE ok HK6.out 40 1 1 3 rfl (by decide) (by decide) (by decide) 0 (setX (fun _ _ => (0, 0)) 2 8 (1, 3)) (by decide) (if_pos (by decide))).mono ?_
  rintro e w7 ⟨rfl, hK⟩
  have HK7 := Lib.hid hK
  clear hK HK6
  go_wp2_with (fail)
  refine (get_mk ok HK7.out 40 40 rfl (by decide) 1 3 (by decide)).mono ?_
  rintro e w8 ⟨rfl, hb⟩
  have HK8 := Lib.hid (HK7.out.later hb)
  clear hb HK7
  have hr := ent_row w8 (1, 3)
  have c0 : (w8.alloc (.cells #[.int .u8 1, .int .i64 3] 23)).cell? ⟨w8.heap.size, 0, none⟩ = some (.int .u8 1) := hr.cell 0 (by decide)
  have c1 : (w8.alloc (.cells #[.int .u8 1, .int .i64 3] 23)).cell? ⟨w8.heap.size, 1, none⟩ = some (.int .i64 3) := hr.cell 1 (by decide)
  have HB9 := Lib.hid ((HB1.out.trans (HK8.out.bel.mono HB1.out.size)).alloc (HB1.out.trans (HK8.out.bel.mono HB1.out.size)).size (.cells #[.int .u8 1, .int .i64 3] 23))
  clear hr
  go_wp2_with (fail)
  go_ret
  exact ⟨rfl, HB9.out⟩
end
end Go.Proofs.Ytnjdcgjaffageaa
