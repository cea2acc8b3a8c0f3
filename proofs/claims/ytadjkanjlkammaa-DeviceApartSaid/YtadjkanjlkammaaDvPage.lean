/-
  device's law: page.
-/
import Derived.Test.YtadjkanjlkammaaBytClone
namespace Go.Proofs.Ytadjkanjlkammaa
open Go.RowKit Go

/-- n bytes, then noughts. -/
def padB (n : Nat) (x : Nat → UInt8) (i : Nat) : UInt8 := if i < n then x i else 0

theorem zeros_at (m j : Nat) (h : j < m) : (Builtin.zeroCells #[Value.int .u8 0] m).toList[j]? = some (.int .u8 0) := by
  simp [Builtin.zeroCells, h, Nat.mod_one]

theorem page_any {w : World} {a : Option Addr} {n c : Nat} {x : Nat → UInt8} (S : Src w a n x) (hn : n ≤ 256) :
    Calls Try.prog 16 #[.slice a n c] w (MadeB w 256 (padB n x)) := by
  obtain ⟨i0, hi, hz0, hz1, hz2⟩ := info_parts infoByte
  have HS := Lib.hid S
  have HM := Lib.hid (show (256 : Int) - n = ((256 - n : Nat) : Int) by omega)
  clear S
  go_enter Try.func16, Try.ntmps16
  go_wp2_with (at_builtin; refine wpList_append_src _ rfl (.tmp 3) (.tmp 4) 32 rfl w.heap.size 5 i0 (.int .u8 0) 1 1 Try.underlying32 hi hz0 hz1 hz2 rfl (by decide) _ _ _ rfl (World.ownsRow_made w #[] 0 (Nat.le_refl _) (Nat.zero_le _) (by simp)) a n c (bytL n x) rfl ?q1 ?q2 (bytL_one n x) ?q4 ?q5 ?q6 ?_)
  case q1 => rw [bytL_len, Nat.mul_one]
  case q2 => exact (HS.out.later ((Below.refl _ w).alloc (Nat.le_refl _) _)).cells
  case q4 => unfold maxLen; omega
  case q5 => omega
  case q6 => simp
  intro v' w1 hown hgr hnil
  have hv : v' ≠ .slice none 0 0 := hnil
  have HO := Lib.hid hown
  have HV := Lib.hid hv
  have HB := Lib.hid (((Below.refl _ w).alloc (Nat.le_refl _) (.cells #[] 5)).grown hgr (by simp) (by intro k hk; simp [Value.ownBlock] at hk; omega))
  clear hown hgr hnil hv
  go_wp2_with (at_builtin; refine wpList_append_zeros _ rfl (.tmp 5) (.tmp 8) 32 3 rfl w.heap.size 5 i0 (.int .u8 0) 1 1 .i64 .i64 Try.underlying32 Try.underlying3 hi hz0 hz1 hz2 rfl (by decide) ?r0 v' _ _ rfl HO.out HV.out _ (256 - n) rfl HM.out ?r4 ?r5 HB.out.size ?_)
  case r0 => intro u hu; simp [Value.cells] at hu; subst hu; rfl
  case r4 => omega
  case r5 => omega
  intro v2 w2 hown hgr hnil
  obtain ⟨g, cap, rfl, hg, hcap, hr⟩ := row_bytes (f := padB n x) hown rfl (fun i hi => by
    unfold byV padB
    by_cases h : i < n
    · rw [List.getElem?_append_left (by rw [bytL_len]; exact h), bytL_at h, if_pos h]; rfl
    · rw [List.getElem?_append_right (by rw [bytL_len]; omega), bytL_len, zeros_at _ _ (by omega), if_neg h]; rfl) hnil
  have HR := Lib.hid hr
  have HB2 := Lib.hid (HB.out.grown hgr HB.out.size (fun k hk => (HO.out.lt k hk).1))
  clear hown hgr hnil hr
  go_wp2_with (fail)
  go_ret
  exact ⟨g, cap, rfl, hg, hcap, HR.out, HB2.out⟩
end Go.Proofs.Ytadjkanjlkammaa
