/- A row of segments made; a text's bytes in a row; segment.onward. -/
import Derived.Test.YtnkcnfkonifmhaaZCutM
import Derived.Lib.ConvBytes
namespace Go.Proofs.Ytnkcnfkonifmhaa
open Go.RowKit
set_option linter.unusedVariables false

section
variable {α : Type} {enc : α → List Value} {k : Nat} {t e : TypeId} {z : Value} {bytes : Nat}
/-- 'make([]T, n)'. -/
theorem make_rowE (S : IsStr t e z k bytes) (n : Nat) (h : n ≤ 1000000) (w : World) :
    (Instr.makeSlice t (.int .i64 (n : Int)) (.int .i64 (n : Int))).run Try.prog w = .ok (.slice (some ⟨w.heap.size, 0, none⟩) n n) (w.alloc (.cells (madeCells z.cells (n * k)) e)) := by
  obtain ⟨i, hi, hz0, hz1, hz2⟩ := info_parts S.info
  have hb' : (i.bytes : Int) * (n : Int) ≤ 281474976710656 := by
    have h1 : i.bytes * n ≤ 100 * 1000000 := Nat.mul_le_mul (by rw [hz2]; exact S.le) h
    have h2 : ((i.bytes * n : Nat) : Int) ≤ 281474976710656 := by omega
    rwa [Int.natCast_mul] at h2
  have hr := run_make (P := Try.prog) w t e i _ S.und hi hz0 .i64 .i64 (n : Int) (n : Int) (by omega) (Int.le_refl _) hb' (by omega)
  simp only [Int.toNat_natCast, hz1] at hr
  exact hr
theorem made_flat (E : IsEnc enc k) (S : IsStr t e z k bytes) (x : α) (hx : (enc x).toArray = z.cells) (n : Nat) : (madeCells z.cells (n * k)).toList = flat enc (List.replicate n x) := by
  apply List.ext_getElem?
  intro m
  have hk := E.pos
  by_cases hm : m < n * k
  · have h1 : m / k < n := Nat.div_lt_of_lt_mul (by rw [Nat.mul_comm]; exact hm)
    have h2 : m % k < k := Nat.mod_lt _ hk
    have e1 : m = m / k * k + m % k := by have := Nat.div_add_mod m k; rw [Nat.mul_comm] at this; omega
    have hr : (flat enc (List.replicate n x))[m]? = (enc x)[m % k]? := by
      conv => lhs; rw [e1]
      rw [flat_get E _ _ _ (by simpa using h1) h2]
      simp
    have hl : m % k < (enc x).length := by rw [E.len]; exact h2
    rw [hr, List.getElem?_eq_getElem hl, Array.getElem?_toList, madeCells, Array.getElem?_map, Array.getElem?_range, if_pos hm, Option.map_some, ← hx]
    have hsz : (enc x).toArray.size = k := by simp [E.len]
    simp [hsz, List.getElem?_eq_getElem hl]
  · rw [List.getElem?_eq_none (by rw [Array.length_toList, size_madeCells]; omega), List.getElem?_eq_none (by rw [flat_len E, List.length_replicate]; omega)]
theorem OwnE.made (E : IsEnc enc k) (S : IsStr t e z k bytes) (x : α) (hx : (enc x).toArray = z.cells) {w : World} {n : Nat} (h : n ≤ 1000000) : OwnE enc k e (w.alloc (.cells (madeCells z.cells (n * k)) e)) w.heap.size (.slice (some ⟨w.heap.size, 0, none⟩) n n) (List.replicate n x) := by
  refine OwnE.of E (rest := []) (by simp) (Nat.le_refl _) (by unfold maxLen; omega) (Nat.le_refl _) ?_ (by rw [List.append_nil, flat_len E, List.length_replicate])
  rw [List.append_nil, ← made_flat E S x hx n]
  have := Blk.new w (madeCells z.cells (n * k)).toList e
  simpa using this
end

theorem bytes_below (w : World) (d : ByteArray) : Below w.heap.size w (Lib.bytesWorld w 5 d) :=
  ⟨rfl, rfl, rfl, by rw [Lib.bytesWorld_size]; omega, fun j hj => Lib.bytesWorld_at_old w _ d j hj⟩
theorem bytes_ls (w : World) (d : ByteArray) : LsK .u8 (Lib.bytesWorld w 5 d) w.heap.size (some ⟨w.heap.size, 0, none⟩) (sb d) :=
  .inr ⟨0, rfl, fun i hi => by
    rw [sb_len] at hi
    rw [Nat.zero_add, Lib.bytesWorld_cell w _ d i hi]
    have hi' : i < d.data.size := hi
    simp [sb, List.getD, Array.getElem?_eq_getElem hi']⟩
theorem conv_bytes (w : World) (d : ByteArray) : (convert 9 32 (.string d)).run Try.prog w = .ok (.slice (some ⟨w.heap.size, 0, none⟩) d.size (grownCap w d.size 0 5)) (Lib.bytesWorld w 5 d) :=
  Lib.run_convert_string_bytes (u := .string) w _ _ _ d (by kernel_rfl) elB.und (by kernel_rfl)

theorem onward_any (seq many : Int) (w : World) (hs : 0 ≤ seq ∧ seq ≤ 4294967295) (hm : 0 ≤ many ∧ many ≤ 1000000000) :
    Calls Try.prog 35 #[.int .u32 seq, .int .i64 many] w fun e w' => e = .returned (.int .u32 ((seq + many) % 4294967296)) ∧ w = w' := by
  have e1 : IntKind.u64.wrap many = many := by rw [IntKind.wrap_u64]; omega
  have e2 : IntKind.u64.wrap seq = seq := by rw [IntKind.wrap_u64]; omega
  have hr : rd 32 = 4294967296 := by decide
  have HA := Lib.hid (fun w => add_any seq many 32 w (by omega) (by omega) (by decide))
  rw [hr] at HA
  obtain ⟨y, hy⟩ : ∃ y, (seq + many) % 4294967296 = y := ⟨_, rfl⟩
  have hyb : 0 ≤ y ∧ y ≤ 4294967295 := by omega
  rw [hy] at HA ⊢
  have e3 : IntKind.u32.wrap y = y := by rw [IntKind.wrap_u32]; omega
  have e4 : y % 4294967296 = y := by omega
  clear hy hr
  go_enter Try.func35, Try.ntmps35
  go_wp2_with (first
    | (go_at_call 59; refine (HA.out _).mono ?_; rintro e w2 ⟨rfl, rfl⟩))
  go_ret
  exact ⟨rfl, rfl⟩
/-- Where the pieces begin and end. -/
theorem cut_bounds {N S M : Nat} (hS : 1 ≤ S) (hM : M = max ((N + S - 1) / S) 1) {i : Nat} (hi : i < M) : i * S ≤ N ∧ (i + 1 < M → i * S + S ≤ N) ∧ (i + 1 = M → N ≤ i * S + S) := by
  obtain ⟨q, hq⟩ : ∃ q, (N + S - 1) / S = q := ⟨_, rfl⟩
  rw [hq] at hM
  have h1 : q * S ≤ N + S - 1 := by rw [← hq]; exact Nat.div_mul_le_self _ _
  have h2 : N + S - 1 < (q + 1) * S := by rw [← hq]; exact Nat.lt_mul_of_div_lt (by omega) (by omega)
  rw [Nat.add_mul, Nat.one_mul] at h2
  by_cases h0 : q = 0
  · subst h0
    obtain rfl : i = 0 := by omega
    simp at h1 h2 ⊢
    omega
  · have hq1 : q - 1 + 1 = q := by omega
    have h3 : i * S ≤ (q - 1) * S := Nat.mul_le_mul_right S (by omega)
    have h4 : q * S = (q - 1) * S + S := by conv => lhs; rw [← hq1, Nat.add_mul, Nat.one_mul]
    refine ⟨by omega, fun hlt => ?_, fun he => ?_⟩
    · have h5 : (i + 1) * S ≤ (q - 1) * S := Nat.mul_le_mul_right S (by omega)
      rw [Nat.add_mul, Nat.one_mul] at h5
      omega
    · obtain rfl : i = q - 1 := by omega
      omega
theorem cut_few {N S M : Nat} (hS : 1 ≤ S) (hN : N ≤ 300) (hM : M = max ((N + S - 1) / S) 1) : 1 ≤ M ∧ M ≤ 300 := by
  have : (N + S - 1) / S ≤ N := by
    rcases Nat.eq_zero_or_pos N with h | h
    · subst h; rw [Nat.div_eq_of_lt (by omega)]; exact Nat.zero_le _
    · refine Nat.div_le_of_le_mul ?_
      have h1 : N + S - 1 ≤ S * N := by
        obtain ⟨s, rfl⟩ : ∃ s, S = s + 1 := ⟨S - 1, by omega⟩
        have h2 : s * 1 ≤ s * N := Nat.mul_le_mul_left s h
        rw [Nat.add_mul, Nat.one_mul]; omega
      exact h1
  omega
end Go.Proofs.Ytnkcnfkonifmhaa
