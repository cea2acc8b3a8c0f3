/-
  The walk of TableWords, for whatever table.
-/
import Derived.Test.YtnjdcgjaffageaaTbKnown
namespace Go.Proofs.Ytnjdcgjaffageaa
open Go.RowKit Go.Shelf Go
attribute [local go_sem] Oper.semAt_some

section
variable {IsT : Thg → Nat → (Nat → Nat) → (Nat → Nat → Ent) → Prop} (ok : TabOk IsT)
include ok
set_option maxRecDepth 100000 in
set_option maxHeartbeats 8000000 in
theorem lawTWords_any (k : Nat) (n : Int) (x : Nat) (hk : k < 256) (hn : InI n) (hx : x < 18446744073709551616) (w : World) :
    Calls Try.prog 3 #[.agg #[.int .u8 k, .int .i64 n], .int .u64 x] w fun e w' => e = .returned (.bool true) ∧ Below w.heap.size w w' := by
  have HP := Lib.hid (And.intro hk (And.intro hn hx))
  obtain ⟨w1, hw1⟩ : ∃ w1, w.alloc (.cells #[.int .u8 k, .int .i64 n] 23) = w1 := ⟨_, rfl⟩
  have HR1 := Lib.hid (show RowAt w1 w.heap.size 2 (etV (k, n)) from by rw [← hw1]; exact ent_row w (k, n))
  have HB1 := Lib.hid (show Below w.heap.size w w1 from by rw [← hw1]; exact (Below.refl _ _).alloc (Nat.le_refl _) _)
  have c0 : w1.cell? ⟨w.heap.size, 0, none⟩ = some (.int .u8 k) := HR1.out.cell 0 (by decide)
  have c1 : w1.cell? ⟨w.heap.size, 1, none⟩ = some (.int .i64 n) := HR1.out.cell 1 (by decide)
  obtain ⟨v, hv⟩ : ∃ v, wordV (k, n) = v := ⟨_, rfl⟩
  obtain ⟨ev, hev⟩ : ∃ ev, wordE (k, n) = ev := ⟨_, rfl⟩
  obtain ⟨y, hy⟩ : ∃ y, entV x = y := ⟨_, rfl⟩
  obtain ⟨y1, y2⟩ := y
  obtain ⟨ey, hey⟩ : ∃ ey, entE x = ey := ⟨_, rfl⟩
  have HV := Lib.hid hv
  have HEV := Lib.hid hev
  have HY := Lib.hid hy
  have HEY := Lib.hid hey
  clear hk hn hx hv hev hy hey
  go_enter Try.func3, Try.ntmps3
  go_wp2_with (fail)
  refine (word_I ok.toWordOk w1 k k n v ev rfl HP.out.1 HP.out.2.1 HV.out HEV.out).mono ?_
  rintro e w2 ⟨rfl, hb⟩
  have HB2 := Lib.hid (HB1.out.trans (hb.mono HB1.out.size))
  have HR2 := Lib.hid (HR1.out.later hb)
  have c0 : w2.cell? ⟨w.heap.size, 0, none⟩ = some (.int .u8 k) := HR2.out.cell 0 (by decide)
  have c1 : w2.cell? ⟨w.heap.size, 1, none⟩ = some (.int .i64 n) := HR2.out.cell 1 (by decide)
  clear hb
  go_wp2_with (fail)
  refine (rword_I w2 k n v ev HP.out.1 HP.out.2.1 HV.out HEV.out).mono ?_
  rintro e w3 ⟨rfl, hb⟩
  have HB3 := Lib.hid (HB2.out.trans (hb.mono HB2.out.size))
  have HR3 := Lib.hid (HR2.out.later hb)
  clear hb c0 c1
  go_wp2_with (fail)
  refine (entry_I ok.toWordOk w3 x x y1 y2 ey rfl HP.out.2.2 HY.out HEY.out).mono ?_
  rintro e w4 ⟨rfl, hb⟩
  have HB4 := Lib.hid (HB3.out.trans (hb.mono HB3.out.size))
  have HR4 := Lib.hid (HR3.out.later hb)
  clear hb
  obtain ⟨w5, hw5⟩ : ∃ w5, (w4.alloc (.cells #[.int .u8 y1, .int .i64 y2] 23)) = w5 := ⟨_, rfl⟩
  have HR5 := Lib.hid (show RowAt w5 w.heap.size 2 (etV (k, n)) from by rw [← hw5]; exact HR4.out.alloc _)
  have HY5 := Lib.hid (show RowAt w5 w4.heap.size 2 (etV (y1, y2)) from by rw [← hw5]; exact ent_row w4 (y1, y2))
  have HB5 := Lib.hid (show Below w.heap.size w w5 from by rw [← hw5]; exact HB4.out.alloc HB4.out.size _)
  go_wp2_with (fail)
  clear hw5
  refine (rentry_I w5 x y1 y2 ey HP.out.2.2 HY.out HEY.out).mono ?_
  rintro e w6 ⟨rfl, hb⟩
  have HB6 := Lib.hid (HB5.out.trans (hb.mono HB5.out.size))
  have HR6 := Lib.hid (HR5.out.later hb)
  have HY6 := Lib.hid (HY5.out.later hb)
  clear hb
  obtain ⟨w7, hw7⟩ : ∃ w7, (w6.alloc (.cells #[.int .u8 y1, .int .i64 y2] 23)) = w7 := ⟨_, rfl⟩
  have HR7 := Lib.hid (show RowAt w7 w.heap.size 2 (etV (k, n)) from by rw [← hw7]; exact HR6.out.alloc _)
  have HY7 := Lib.hid (show RowAt w7 w4.heap.size 2 (etV (y1, y2)) from by rw [← hw7]; exact HY6.out.alloc _)
  have HZ7 := Lib.hid (show RowAt w7 w6.heap.size 2 (etV (y1, y2)) from by rw [← hw7]; exact ent_row w6 (y1, y2))
  have HB7 := Lib.hid (show Below w.heap.size w w7 from by rw [← hw7]; exact HB6.out.alloc HB6.out.size _)
  by_cases hok : entOk (k, n)
  · obtain rfl : (0 : Int) = ev := by rw [← HEV.out]; exact (if_pos hok).symm
    have HVV := Lib.hid (show entV v = (k, n) from by rw [← HV.out]; exact ent_word hok)
    have HVE := Lib.hid (show entE v = 0 from by rw [← HV.out]; exact if_pos (word_is hok))
    have HVL := Lib.hid (show v < 18446744073709551616 from by
      have := (word_is hok).1
      rw [HV.out] at this
      omega)
    clear hok
    go_wp2_with (fail)
    clear hw7
    refine (entry_I ok.toWordOk w7 v v k n 0 rfl HVL.out HVV.out HVE.out).mono ?_
    rintro e w8 ⟨rfl, hb⟩
    have HB8 := Lib.hid (HB7.out.trans (hb.mono HB7.out.size))
    have HR8 := Lib.hid (HR7.out.later hb)
    have HY8 := Lib.hid (HY7.out.later hb)
    have HZ8 := Lib.hid (HZ7.out.later hb)
    clear hb
    obtain ⟨w9, hw9⟩ : ∃ w9, (w8.alloc (.cells #[.int .u8 k, .int .i64 n] 23)) = w9 := ⟨_, rfl⟩
    have c0 : w9.cell? ⟨w.heap.size, 0, none⟩ = some (.int .u8 k) := by rw [← hw9]; exact (HR8.out.alloc _).cell 0 (by decide)
    have c1 : w9.cell? ⟨w.heap.size, 1, none⟩ = some (.int .i64 n) := by rw [← hw9]; exact (HR8.out.alloc _).cell 1 (by decide)
    have d0 : w9.cell? ⟨w4.heap.size, 0, none⟩ = some (.int .u8 y1) := by rw [← hw9]; exact (HY8.out.alloc _).cell 0 (by decide)
    have d1 : w9.cell? ⟨w4.heap.size, 1, none⟩ = some (.int .i64 y2) := by rw [← hw9]; exact (HY8.out.alloc _).cell 1 (by decide)
    have f0 : w9.cell? ⟨w6.heap.size, 0, none⟩ = some (.int .u8 y1) := by rw [← hw9]; exact (HZ8.out.alloc _).cell 0 (by decide)
    have f1 : w9.cell? ⟨w6.heap.size, 1, none⟩ = some (.int .i64 y2) := by rw [← hw9]; exact (HZ8.out.alloc _).cell 1 (by decide)
    have g0 : w9.cell? ⟨w8.heap.size, 0, none⟩ = some (.int .u8 k) := by rw [← hw9]; exact (ent_row w8 (k, n)).cell 0 (by decide)
    have g1 : w9.cell? ⟨w8.heap.size, 1, none⟩ = some (.int .i64 n) := by rw [← hw9]; exact (ent_row w8 (k, n)).cell 1 (by decide)
    have HB9 := Lib.hid (show Below w.heap.size w w9 from by rw [← hw9]; exact HB8.out.alloc HB8.out.size _)
    go_wp2_with (fail)
    refine (known_any ok w9).mono ?_
    rintro e w10 ⟨rfl, hb⟩
    have HB10 := Lib.hid (HB9.out.trans (hb.mono HB9.out.size))
    clear hb
    go_wp2_with (fail)
    go_ret
    exact ⟨rfl, HB10.out⟩
  · obtain rfl : (2 : Int) = ev := by rw [← HEV.out]; exact (if_neg hok).symm
    have d0 : w7.cell? ⟨w4.heap.size, 0, none⟩ = some (.int .u8 y1) := HY7.out.cell 0 (by decide)
    have d1 : w7.cell? ⟨w4.heap.size, 1, none⟩ = some (.int .i64 y2) := HY7.out.cell 1 (by decide)
    have f0 : w7.cell? ⟨w6.heap.size, 0, none⟩ = some (.int .u8 y1) := HZ7.out.cell 0 (by decide)
    have f1 : w7.cell? ⟨w6.heap.size, 1, none⟩ = some (.int .i64 y2) := HZ7.out.cell 1 (by decide)
    clear hok
    go_wp2_with (fail)
    refine (known_any ok w7).mono ?_
    rintro e w10 ⟨rfl, hb⟩
    have HB10 := Lib.hid (HB7.out.trans (hb.mono HB7.out.size))
    clear hb
    go_wp2_with (fail)
    go_ret
    exact ⟨rfl, HB10.out⟩
end
end Go.Proofs.Ytnjdcgjaffageaa
