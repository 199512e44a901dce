/- A header's bytes there and back. -/
import Derived.Test.YtnkcnfkonifmhaaZFlgD
namespace Go.Proofs.Ytnkcnfkonifmhaa
open Go.RowKit
set_option linter.unusedVariables false

theorem hdF_byt {h : Hd} (ok : HdOk h) (hf : fitF h) : bytS (hdF h) := by
  obtain ⟨h0, h1, h2, h3, h4, h5, h6, h7, h8, h9⟩ := ok
  obtain ⟨f0, f1, f2, f3⟩ := hf
  intro x hx
  simp only [hdF, twosF, foursF, fourF, twoF, List.flatMap_cons, List.flatMap_nil, List.append_nil, List.nil_append, List.cons_append, List.mem_cons, List.not_mem_nil, or_false] at hx
  omega
theorem back_is {h : Hd} (ok : HdOk h) (hf : fitF h) (ys : List Int) : isF (hdF h ++ ys) := by
  have e : bF (hdF h ++ ys) 12 = h.off * 16 + h.ace / 4 := rfl
  obtain ⟨f0, f1, f2, f3⟩ := hf
  have := ok.ace
  unfold isF
  rw [e]; omega
theorem back_dec {h : Hd} (ok : HdOk h) (hf : fitF h) (ys : List Int) : decF (hdF h ++ ys) = h := by
  have e : decF (hdF h ++ ys) = ⟨h.src / 256 * 256 + h.src % 256, h.dst / 256 * 256 + h.dst % 256, (h.seq / 65536 / 256 * 256 + h.seq / 65536 % 256) * 65536 + (h.seq % 65536 / 256 * 256 + h.seq % 65536 % 256), (h.ack / 65536 / 256 * 256 + h.ack / 65536 % 256) * 65536 + (h.ack % 65536 / 256 * 256 + h.ack % 65536 % 256), (h.off * 16 + h.ace / 4) / 16, (h.off * 16 + h.ace / 4) % 2 * 4 + (h.ace % 4 * 64 + h.fl) / 64, (h.ace % 4 * 64 + h.fl) % 64, h.win / 256 * 256 + h.win % 256, h.sum / 256 * 256 + h.sum % 256, h.urg / 256 * 256 + h.urg % 256⟩ := rfl
  rw [e]
  obtain ⟨h0, h1, h2, h3, h4, h5, h6, h7, h8, h9⟩ := ok
  obtain ⟨f0, f1, f2, f3⟩ := hf
  obtain ⟨src, dst, seq, ack, off, ace, fl, win, sum, urg⟩ := h
  simp only [Hd.mk.injEq] at *
  refine ⟨?_, ?_, ?_, ?_, ?_, ?_, ?_, ?_, ?_, ?_⟩ <;> omega
theorem cons_of {zs : List Int} {n : Nat} (h : n + 1 ≤ zs.length) : ∃ a t, zs = a :: t ∧ n ≤ t.length := by
  cases zs with
  | nil => simp at h
  | cons a t => exact ⟨a, t, rfl, by simpa using h⟩
theorem dec_back {zs : List Int} (hb : bytS zs) (hl : 20 ≤ zs.length) (hf : isF zs) : HdOk (decF zs) ∧ fitF (decF zs) ∧ hdF (decF zs) = zs.take 20 := by
  obtain ⟨a0, t0, rfl, l0⟩ := cons_of (n := 19) hl
  obtain ⟨a1, t1, rfl, l1⟩ := cons_of (n := 18) l0
  obtain ⟨a2, t2, rfl, l2⟩ := cons_of (n := 17) l1
  obtain ⟨a3, t3, rfl, l3⟩ := cons_of (n := 16) l2
  obtain ⟨a4, t4, rfl, l4⟩ := cons_of (n := 15) l3
  obtain ⟨a5, t5, rfl, l5⟩ := cons_of (n := 14) l4
  obtain ⟨a6, t6, rfl, l6⟩ := cons_of (n := 13) l5
  obtain ⟨a7, t7, rfl, l7⟩ := cons_of (n := 12) l6
  obtain ⟨a8, t8, rfl, l8⟩ := cons_of (n := 11) l7
  obtain ⟨a9, t9, rfl, l9⟩ := cons_of (n := 10) l8
  obtain ⟨a10, t10, rfl, l10⟩ := cons_of (n := 9) l9
  obtain ⟨a11, t11, rfl, l11⟩ := cons_of (n := 8) l10
  obtain ⟨a12, t12, rfl, l12⟩ := cons_of (n := 7) l11
  obtain ⟨a13, t13, rfl, l13⟩ := cons_of (n := 6) l12
  obtain ⟨a14, t14, rfl, l14⟩ := cons_of (n := 5) l13
  obtain ⟨a15, t15, rfl, l15⟩ := cons_of (n := 4) l14
  obtain ⟨a16, t16, rfl, l16⟩ := cons_of (n := 3) l15
  obtain ⟨a17, t17, rfl, l17⟩ := cons_of (n := 2) l16
  obtain ⟨a18, t18, rfl, l18⟩ := cons_of (n := 1) l17
  obtain ⟨a19, t19, rfl, l19⟩ := cons_of (n := 0) l18
  have b0 := hb a0 (by simp)
  have b1 := hb a1 (by simp)
  have b2 := hb a2 (by simp)
  have b3 := hb a3 (by simp)
  have b4 := hb a4 (by simp)
  have b5 := hb a5 (by simp)
  have b6 := hb a6 (by simp)
  have b7 := hb a7 (by simp)
  have b8 := hb a8 (by simp)
  have b9 := hb a9 (by simp)
  have b10 := hb a10 (by simp)
  have b11 := hb a11 (by simp)
  have b12 := hb a12 (by simp)
  have b13 := hb a13 (by simp)
  have b14 := hb a14 (by simp)
  have b15 := hb a15 (by simp)
  have b16 := hb a16 (by simp)
  have b17 := hb a17 (by simp)
  have b18 := hb a18 (by simp)
  have b19 := hb a19 (by simp)
  clear hb
  have f : 80 ≤ a12 ∧ a12 % 16 ≤ 1 := hf
  obtain ⟨f0, f1⟩ := f
  refine ⟨⟨?_, ?_, ?_, ?_, ?_, ?_, ?_, ?_, ?_, ?_⟩, ⟨?_, ?_, ?_, ?_⟩, ?_⟩
  · show 0 ≤ a0 * 256 + a1 ∧ a0 * 256 + a1 ≤ 65535; omega
  · show 0 ≤ a2 * 256 + a3 ∧ a2 * 256 + a3 ≤ 65535; omega
  · show 0 ≤ (a4 * 256 + a5) * 65536 + (a6 * 256 + a7) ∧ (a4 * 256 + a5) * 65536 + (a6 * 256 + a7) ≤ 4294967295; omega
  · show 0 ≤ (a8 * 256 + a9) * 65536 + (a10 * 256 + a11) ∧ (a8 * 256 + a9) * 65536 + (a10 * 256 + a11) ≤ 4294967295; omega
  · show 0 ≤ a12 / 16 ∧ a12 / 16 ≤ 255; omega
  · show 0 ≤ a12 % 2 * 4 + a13 / 64 ∧ a12 % 2 * 4 + a13 / 64 ≤ 255; omega
  · show 0 ≤ a13 % 64 ∧ a13 % 64 ≤ 255; omega
  · show 0 ≤ a14 * 256 + a15 ∧ a14 * 256 + a15 ≤ 65535; omega
  · show 0 ≤ a16 * 256 + a17 ∧ a16 * 256 + a17 ≤ 65535; omega
  · show 0 ≤ a18 * 256 + a19 ∧ a18 * 256 + a19 ≤ 65535; omega
  · show 5 ≤ a12 / 16; omega
  · show a12 / 16 ≤ 15; omega
  · show a12 % 2 * 4 + a13 / 64 ≤ 7; omega
  · show a13 % 64 ≤ 63; omega
  · show [(a0 * 256 + a1) / 256, (a0 * 256 + a1) % 256, (a2 * 256 + a3) / 256, (a2 * 256 + a3) % 256, ((a4 * 256 + a5) * 65536 + (a6 * 256 + a7)) / 65536 / 256, ((a4 * 256 + a5) * 65536 + (a6 * 256 + a7)) / 65536 % 256, ((a4 * 256 + a5) * 65536 + (a6 * 256 + a7)) % 65536 / 256, ((a4 * 256 + a5) * 65536 + (a6 * 256 + a7)) % 65536 % 256, ((a8 * 256 + a9) * 65536 + (a10 * 256 + a11)) / 65536 / 256, ((a8 * 256 + a9) * 65536 + (a10 * 256 + a11)) / 65536 % 256, ((a8 * 256 + a9) * 65536 + (a10 * 256 + a11)) % 65536 / 256, ((a8 * 256 + a9) * 65536 + (a10 * 256 + a11)) % 65536 % 256, a12 / 16 * 16 + (a12 % 2 * 4 + a13 / 64) / 4, (a12 % 2 * 4 + a13 / 64) % 4 * 64 + a13 % 64, (a14 * 256 + a15) / 256, (a14 * 256 + a15) % 256, (a16 * 256 + a17) / 256, (a16 * 256 + a17) % 256, (a18 * 256 + a19) / 256, (a18 * 256 + a19) % 256] = [a0, a1, a2, a3, a4, a5, a6, a7, a8, a9, a10, a11, a12, a13, a14, a15, a16, a17, a18, a19]
    simp only [List.cons.injEq, and_true]
    refine ⟨?_, ?_, ?_, ?_, ?_, ?_, ?_, ?_, ?_, ?_, ?_, ?_, ?_, ?_, ?_, ?_, ?_, ?_, ?_, ?_⟩ <;> omega
/-- Bytes that are read, as a text. -/
theorem text_ls {w : World} {g off n c : Nat} {zs : List Int} (h : LsK .u8 w g (some ⟨g, off, none⟩) zs) (hn : zs.length = n) : (convert 32 9 (.slice (some ⟨g, off, none⟩) n c)).run Try.prog w = .ok (.string (strOfNums zs)) w := by
  refine run_convert_bytes_arg w _ _ elB.und (by kernel_rfl) g off n c zs hn (fun i hi => ?_) _ (by kernel_rfl)
  rw [List.getD_eq_getElem?_getD]
  exact h.at hn hi
end Go.Proofs.Ytnkcnfkonifmhaa
