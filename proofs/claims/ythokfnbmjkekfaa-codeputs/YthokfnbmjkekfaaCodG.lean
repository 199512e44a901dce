/- Package code: what peek tells of a number; pass and fail. -/
import Derived.Test.YthokfnbmjkekfaaCodF
namespace Go.Proofs.Ythokfnbmjkekfaa
open Go.RowKit
set_option linter.unusedVariables false

/-- What the walk wants of a reader whose bytes begin with a number. -/
theorem RdAt.some {w : World} {b g : Nat} {A : Option Addr} {n c : Nat} {bs : List Int} {a : Nat} {er : Int} (h : RdAt w b g A n c bs a er) (h0 : 0 < bs.length) : ∃ off, A = some ⟨g, off, none⟩ := by
  rcases h.2.1 with h1 | ⟨off, rfl, _⟩
  · simp [h1] at h0
  · exact ⟨off, rfl⟩
set_option maxRecDepth 100000 in
theorem peek_form (b g : Nat) (bs : List Int) (a : Nat) (most : Int) (k : Nat) (w : World) (h : IsRd w b g bs a 0) (he : ext bs = k) (hk : 1 ≤ k) (hf : fit (bs.take k) = false) : Calls Try.prog 30 #[.pointer (some ⟨b, 0, none⟩), .int .u64 most] w (Peeks w 0 0 5) := by
  have HR := Lib.hid h
  obtain ⟨A, n, c, hR⟩ := h
  have hle := ext_le bs
  obtain ⟨off, rfl⟩ := hR.some (by omega)
  obtain ⟨hB, hV, hn, hc, _, hm, _⟩ := hR
  have c0 := hB.cell 0 rfl
  have HV := Lib.hid hV
  have HT := Lib.hid (hV.take k)
  have HN := Lib.hid hn
  have HE := Lib.hid he
  have HK : Hid ((bs.take k).length = k) := Lib.hid (by rw [List.length_take]; omega)
  have HF := Lib.hid hf
  have hm' : n ≤ 1000000000 := by omega
  have k0 : (0 : Int) ≤ (k : Int) := by omega
  have k1 : (k : Int) ≤ (c : Int) := by omega
  have k2 : ((k : Int) == 0) = false := by simp; omega
  have k3 : k ≤ c := by omega
  have k4 : k ≤ 1000000000 := by omega
  clear hB hV hn he hm hle hf
  go_enter Try.func30, Try.ntmps30
  go_wp2_with (first
    | (go_at_call 25; refine (errR b g bs a 0 _ HR.out).mono ?_; rintro e w' ⟨rfl, rfl⟩)
    | (go_at_call 33; refine (extent_any _ g n c bs _ HV.out HN.out hm').mono ?_; rw [HE.out]; rintro e w' ⟨rfl, rfl⟩)
    | (go_at_call 34; refine (join_no g off k c (bs.take k) _ HT.out HK.out hk k4 HF.out).mono ?_; rintro e w' ⟨rfl, rfl⟩))
  exact bodyPost_ret (v := .tuple #[.int .u64 0, .int .i64 0, .int .i64 5]) (by simp [results, Try.results30, go_sem]) rfl ⟨rfl, rfl⟩
set_option maxRecDepth 100000 in
theorem peek_num (b g : Nat) (bs : List Int) (a : Nat) (most x : Int) (k : Nat) (w : World) (h : IsRd w b g bs a 0) (he : ext bs = k) (hk : 1 ≤ k) (hf : fit (bs.take k) = true) (hx : gval (bs.take k) = x) : Calls Try.prog 30 #[.pointer (some ⟨b, 0, none⟩), .int .u64 most] w (fun e w' => (most < x → Peeks w 0 0 2 e w') ∧ (x ≤ most → Peeks w x k 0 e w')) := by
  have HR := Lib.hid h
  obtain ⟨A, n, c, hR⟩ := h
  have hle := ext_le bs
  obtain ⟨off, rfl⟩ := hR.some (by omega)
  obtain ⟨hB, hV, hn, hc, hby, hm, _⟩ := hR
  have c0 := hB.cell 0 rfl
  have HV := Lib.hid hV
  have HT := Lib.hid (hV.take k)
  have HY : Hid (∀ x ∈ bs.take k, 0 ≤ x ∧ x ≤ 255) := Lib.hid (fun x hx => hby x (List.mem_of_mem_take hx))
  have HN := Lib.hid hn
  have HE := Lib.hid he
  have HX := Lib.hid hx
  have HK : Hid ((bs.take k).length = k) := Lib.hid (by rw [List.length_take]; omega)
  have HF := Lib.hid hf
  have hm' : n ≤ 1000000000 := by omega
  have k0 : (0 : Int) ≤ (k : Int) := by omega
  have k1 : (k : Int) ≤ (c : Int) := by omega
  have k2 : ((k : Int) == 0) = false := by simp; omega
  have k3 : k ≤ c := by omega
  have k4 : k ≤ 1000000000 := by omega
  clear hB hV hn he hm hle hf hby hx
  by_cases hq : most < x
  · go_enter Try.func30, Try.ntmps30
    go_wp2_with (first
      | (go_at_call 25; refine (errR b g bs a 0 _ HR.out).mono ?_; rintro e w' ⟨rfl, rfl⟩)
      | (go_at_call 33; refine (extent_any _ g n c bs _ HV.out HN.out hm').mono ?_; rw [HE.out]; rintro e w' ⟨rfl, rfl⟩)
      | (go_at_call 34; refine (join_yes g off k c (bs.take k) _ HT.out HK.out hk HY.out HF.out).mono ?_; rw [HX.out]; rintro e w' ⟨rfl, rfl⟩))
    exact bodyPost_ret (v := .tuple #[.int .u64 0, .int .i64 0, .int .i64 2]) (by simp [results, Try.results30, go_sem]) rfl ⟨fun _ => ⟨rfl, rfl⟩, fun h => absurd h (by omega)⟩
  · go_enter Try.func30, Try.ntmps30
    go_wp2_with (first
      | (go_at_call 25; refine (errR b g bs a 0 _ HR.out).mono ?_; rintro e w' ⟨rfl, rfl⟩)
      | (go_at_call 33; refine (extent_any _ g n c bs _ HV.out HN.out hm').mono ?_; rw [HE.out]; rintro e w' ⟨rfl, rfl⟩)
      | (go_at_call 34; refine (join_yes g off k c (bs.take k) _ HT.out HK.out hk HY.out HF.out).mono ?_; rw [HX.out]; rintro e w' ⟨rfl, rfl⟩))
    exact bodyPost_ret (v := .tuple #[.int .u64 x, .int .i64 (k : Int), .int .i64 0]) (by simp [results, Try.results30, go_sem]) rfl ⟨fun h => absurd h (by omega), fun _ => ⟨rfl, rfl⟩⟩

theorem fail_nil (er : Int) (w : World) : Calls Try.prog 31 #[.pointer none, .int .i64 er] w fun e w' => e = .returned (.tuple #[]) ∧ w = w' := by
  go_enter Try.func31, Try.ntmps31
  go_wp2_with fail
  refine bodyPost_end (results_none rfl _ _ _) rfl ?_
  exact ⟨rfl, rfl⟩
/-- What a call that changes the reader leaves. -/
def RdTo (w : World) (b g : Nat) (v : Value) (bs : List Int) (a : Nat) (er : Int) (e : Ending) (w' : World) : Prop :=
  e = .returned v ∧ IsRd w' b g bs a er ∧ Out (fun j => j = b) w w'
theorem fail_any (b g : Nat) (bs : List Int) (a : Nat) (e0 er : Int) (w : World) (h : IsRd w b g bs a e0) : Calls Try.prog 31 #[.pointer (some ⟨b, 0, none⟩), .int .i64 er] w (RdTo w b g (.tuple #[]) [] a er) := by
  obtain ⟨A, n, c, hR⟩ := h
  have HR := Lib.hid hR
  have hB := hR.1
  have c0 := hB.cell 0 rfl
  have c2 := hB.cell 2 rfl
  have f0 := hB.frozen 0
  have f2 := hB.frozen 2
  have HB := Lib.hid hB
  clear hR hB
  go_enter Try.func31, Try.ntmps31
  go_wp2_with fail
  refine bodyPost_end (results_none rfl _ _ _) rfl ?_
  obtain ⟨hB, hV, hn, hc, hby, hm, hg⟩ := HR.out
  have o1 : Out (fun j => j = b) w ((w.setCell ⟨b, 0, none⟩ (.slice none 0 0)).setCell ⟨b, 2, none⟩ (.int .i64 er)) := Out.set (p := ⟨b, 2, none⟩) (Out.set (p := ⟨b, 0, none⟩) (Out.refl (fun j => j = b) w) (.inl rfl) _) (.inl rfl) _
  exact ⟨rfl, ⟨none, 0, 0, (hB.set 0 _).set 2 _, .inl rfl, rfl, Nat.le_refl _, (fun x hx => absurd hx (by simp)), by omega, .inl rfl⟩, o1⟩
set_option maxRecDepth 100000 in
theorem pass_any (b g : Nat) (bs : List Int) (a k : Nat) (er : Int) (w : World) (h : IsRd w b g bs a er) (hk : 1 ≤ k) (hk2 : k ≤ bs.length) : Calls Try.prog 32 #[.pointer (some ⟨b, 0, none⟩), .int .i64 (k : Int)] w (RdTo w b g (.tuple #[]) (bs.drop k) (a + k) er) := by
  obtain ⟨A, n, c, hR⟩ := h
  obtain ⟨off, rfl⟩ := hR.some (by omega)
  have HR := Lib.hid hR
  obtain ⟨hB, hV, hn, hc, hby, hm, hg⟩ := hR
  have c0 := hB.cell 0 rfl
  have c1 := hB.cell 1 rfl
  have f0 := hB.frozen 0
  have f1 := hB.frozen 1
  have k0 : (0 : Int) ≤ (k : Int) := by omega
  have k1 : (k : Int) ≤ (n : Int) := by omega
  have k2 : k ≤ n := by omega
  have k3 : (n : Int) ≤ (c : Int) := by omega
  have a0 : (0 : Int) ≤ (a : Int) := by omega
  have a1 : (a : Int) + (k : Int) ≤ 1000000000 := by omega
  clear hB hV hn hby
  by_cases hkc : c = k
  · have n1 : n = k := by omega
    subst hkc n1
    go_enter Try.func32, Try.ntmps32
    go_wp2_with fail
    refine bodyPost_end (results_none rfl _ _ _) rfl ?_
    obtain ⟨hB, hV, hn, hc, hby, hm, hg⟩ := HR.out
    have o1 : Out (fun j => j = b) w ((w.setCell ⟨b, 0, none⟩ (.slice (some ⟨g, off, none⟩) 0 0)).setCell ⟨b, 1, none⟩ (.int .i64 ((a : Int) + (n : Int)))) := Out.set (p := ⟨b, 1, none⟩) (Out.set (p := ⟨b, 0, none⟩) (Out.refl (fun j => j = b) w) (.inl rfl) _) (.inl rfl) _
    have e1 : bs.drop n = [] := List.drop_eq_nil_of_le (by omega)
    have e2 := (hB.set 0 (.slice (some ⟨g, off, none⟩) 0 0)).set 1 (.int .i64 ((a : Int) + (n : Int)))
    rw [e1]
    exact ⟨rfl, ⟨_, 0, 0, by rw [Int.natCast_add]; exact e2, .inl rfl, rfl, Nat.le_refl _, (fun x hx => absurd hx (by simp)), by omega, .inl rfl⟩, o1⟩
  · have hkc2 : k < c := by omega
    go_enter Try.func32, Try.ntmps32
    go_wp2_with fail
    refine bodyPost_end (results_none rfl _ _ _) rfl ?_
    obtain ⟨hB, hV, hn, hc, hby, hm, hg⟩ := HR.out
    have o1 : Out (fun j => j = b) w ((w.setCell ⟨b, 0, none⟩ (.slice (some ⟨g, off + k, none⟩) (n - k) (c - k))).setCell ⟨b, 1, none⟩ (.int .i64 ((a : Int) + (k : Int)))) := Out.set (p := ⟨b, 1, none⟩) (Out.set (p := ⟨b, 0, none⟩) (Out.refl (fun j => j = b) w) (.inl rfl) _) (.inl rfl) _
    have e2 := (hB.set 0 (.slice (some ⟨g, off + k, none⟩) (n - k) (c - k))).set 1 (.int .i64 ((a : Int) + (k : Int)))
    exact ⟨rfl, ⟨_, n - k, c - k, by rw [Int.natCast_add]; exact e2, (hV.drop k).outs o1 (fun e => hg.elim (fun e0 => absurd (by rw [e0]; simp) e) (fun e1 => e1.1)), by rw [List.length_drop]; omega, by omega, fun x hx => hby x (List.mem_of_mem_drop hx), by omega, hg.imp (fun e => by rw [e]; simp) (fun ⟨e1, e2⟩ => ⟨e1, Nat.lt_of_lt_of_le e2 o1.size⟩)⟩, o1⟩
end Go.Proofs.Ythokfnbmjkekfaa
