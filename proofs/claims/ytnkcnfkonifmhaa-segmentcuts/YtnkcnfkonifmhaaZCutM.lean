/- Plain facts on data that are cut into segments; the row of segments. -/
import Derived.Test.YtnkcnfkonifmhaaZSegF
import Derived.Test.YtnkcnfkonifmhaaZSerA
namespace Go.Proofs.Ytnkcnfkonifmhaa
open Go.RowKit
set_option linter.unusedVariables false

/-- A segment without options. -/
structure SgC where
  h : Hd
  d : ByteArray
def encSg (x : SgC) : List Value := [.int .u16 x.h.src, .int .u16 x.h.dst, .int .u32 x.h.seq, .int .u32 x.h.ack, .int .u8 x.h.off, .int .u8 x.h.ace, .int .u8 x.h.fl, .int .u16 x.h.win, .int .u16 x.h.sum, .int .u16 x.h.urg, .slice none 0 0, .string x.d]
theorem encSg_is : IsEnc encSg 12 := ⟨by decide, fun _ => rfl, fun x v hv => by simp [encSg] at hv; rcases hv with rfl | rfl | rfl | rfl | rfl | rfl | rfl | rfl | rfl | rfl | rfl | rfl <;> rfl⟩
theorem strSg : IsStr 49 30 (.agg #[.int .u16 0, .int .u16 0, .int .u32 0, .int .u32 0, .int .u8 0, .int .u8 0, .int .u8 0, .int .u16 0, .int .u16 0, .int .u16 0, .slice none 0 0, .string ⟨#[]⟩]) 12 64 := ⟨by kernel_rfl, by kernel_rfl, rfl, by decide⟩
abbrev OwnSg (w : World) (base : Nat) (v : Value) (xs : List SgC) : Prop := OwnE encSg 12 30 w base v xs
def zeroSg : SgC := ⟨zeroH, ⟨#[]⟩⟩
/-- The flags of a piece: a: it is not the first one; b: not the last one. -/
def flC (fl : Int) (a b : Bool) : Int := fl - (if a then 2 * (fl / 2 % 2) else 0) - (if b then fl % 2 + 8 * (fl / 8 % 2) else 0)
/-- Its number. -/
def sqC (h : Hd) (S i : Nat) : Int := (h.seq + ((i * S : Nat) : Int) + (if 0 < i then h.fl / 2 % 2 else 0)) % 4294967296
def segC (h : Hd) (d : ByteArray) (S M i : Nat) : SgC := ⟨{ h with seq := sqC h S i, fl := flC h.fl (decide (0 < i)) (decide (i + 1 < M)) }, d.extract (i * S) (min (i * S + S) d.size)⟩
def cutC (h : Hd) (d : ByteArray) (S M : Nat) (n : Nat) : List SgC := (List.range n).map (segC h d S M)
theorem cutC_len (h : Hd) (d : ByteArray) (S M n : Nat) : (cutC h d S M n).length = n := by simp [cutC]
theorem cutC_succ (h : Hd) (d : ByteArray) (S M n : Nat) : cutC h d S M (n + 1) = cutC h d S M n ++ [segC h d S M n] := by simp [cutC, List.range_succ]
theorem cutC_get (h : Hd) (d : ByteArray) (S M : Nat) {n i : Nat} (hi : i < n) : (cutC h d S M n)[i]? = some (segC h d S M i) := by simp [cutC, hi]
theorem cutC_set (h : Hd) (d : ByteArray) (S M : Nat) {n i : Nat} (hi : i < n) (z : SgC) : (cutC h d S M i ++ List.replicate (n - i) z).set i (segC h d S M i) = cutC h d S M (i + 1) ++ List.replicate (n - (i + 1)) z := by
  have e : n - i = (n - (i + 1)) + 1 := by omega
  rw [cutC_succ, List.set_append_right _ _ (by rw [cutC_len]; exact Nat.le_refl _), cutC_len, Nat.sub_self, e, List.replicate_succ, List.set_cons_zero, List.append_assoc]
  rfl
theorem sq_zero {h : Hd} (ok : HdOk h) (S : Nat) : sqC h S 0 = h.seq := by
  unfold sqC
  have := ok.seq
  simp
  omega
theorem sq_bd (h : Hd) (S i : Nat) : 0 ≤ sqC h S i ∧ sqC h S i ≤ 4294967295 := by unfold sqC; omega
/-- What a piece takes of the numbers: its bytes, and a Syn. -/
theorem sq_succ (h : Hd) (S i : Nat) : (sqC h S i + (S : Int) + (if i = 0 then h.fl / 2 % 2 else 0)) % 4294967296 = sqC h S (i + 1) := by
  unfold sqC
  have e : (((i + 1) * S : Nat) : Int) = ((i * S : Nat) : Int) + (S : Int) := by rw [Nat.add_mul, Nat.one_mul]; omega
  rw [e]
  by_cases hi : i = 0
  · subst hi; simp; omega
  · rw [if_neg hi, if_pos (show 0 < i by omega), if_pos (show 0 < i + 1 by omega)]; omega
theorem andn_two : ∀ n : Nat, n < 256 → bits .andNot .u8 (n : Int) 2 = (n : Int) - 2 * ((n : Int) / 2 % 2) := by decide +kernel
theorem andn_nine : ∀ n : Nat, n < 256 → bits .andNot .u8 (n : Int) 9 = (n : Int) - ((n : Int) % 2 + 8 * ((n : Int) / 8 % 2)) := by decide +kernel
theorem fl_parts {fl : Int} (a b : Bool) (h : 0 ≤ fl ∧ fl ≤ 255) : 0 ≤ flC fl a b ∧ flC fl a b ≤ 255 ∧ flC fl a b / 2 % 2 = (if a then 0 else fl / 2 % 2) ∧ flC fl a b % 2 = (if b then 0 else fl % 2) := by
  unfold flC
  cases a <;> cases b <;> simp <;> omega
/-- A part of a text's bytes. -/
theorem sb_extract (d : ByteArray) (lo hi : Nat) : sb (d.extract lo hi) = ((sb d).drop lo).take (hi - lo) := by
  unfold sb
  rw [ByteArray.data_extract, Array.toList_extract, List.extract_eq_take_drop]
  rw [List.map_take, List.map_drop]
theorem str_extract (d : ByteArray) (lo hi : Nat) : strOfNums (((sb d).drop lo).take (hi - lo)) = d.extract lo hi := by rw [← sb_extract, sb_back]
end Go.Proofs.Ytnkcnfkonifmhaa
