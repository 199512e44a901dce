/- Package code: Upto, Take, Int, Text, New. -/
import Derived.Test.YthokfnbmjkekfaaCodG
import Derived.Test.YthokfnbmjkekfaaCodD
namespace Go.Proofs.Ythokfnbmjkekfaa
open Go.RowKit
set_option linter.unusedVariables false

/-- What comes next: the number, of how many bytes it is, the error. -/
def Nx (bs : List Int) (er most : Int) (x : Int) (k : Nat) (E : Int) : Prop :=
  (er ≠ 0 ∧ x = 0 ∧ k = 0 ∧ E = er) ∨ (er = 0 ∧ ext bs = 0 ∧ x = 0 ∧ k = 0 ∧ E = 3) ∨ (er = 0 ∧ 1 ≤ ext bs ∧ fit (bs.take (ext bs)) = false ∧ x = 0 ∧ k = 0 ∧ E = 5) ∨
  (er = 0 ∧ 1 ≤ ext bs ∧ fit (bs.take (ext bs)) = true ∧ most < gval (bs.take (ext bs)) ∧ x = 0 ∧ k = 0 ∧ E = 2) ∨
  (er = 0 ∧ 1 ≤ ext bs ∧ fit (bs.take (ext bs)) = true ∧ gval (bs.take (ext bs)) ≤ most ∧ x = gval (bs.take (ext bs)) ∧ k = ext bs ∧ E = 0)
theorem Nx.ok {bs : List Int} {er most x : Int} {k : Nat} (h : Nx bs er most x k 0) : er = 0 ∧ 1 ≤ k ∧ k ≤ bs.length ∧ x ≤ most := by
  have := ext_le bs
  rcases h with ⟨h, _, _, e⟩ | ⟨_, _, _, _, e⟩ | ⟨_, _, _, _, _, e⟩ | ⟨_, _, _, _, _, _, e⟩ | ⟨h, h1, _, h2, rfl, rfl, _⟩
  · omega
  · cases e
  · cases e
  · cases e
  · exact ⟨h, h1, this, h2⟩
/-- A number's bytes, and others behind them. -/
theorem Nx.nb {x : Nat} (r : List Int) {most : Int} (hx : x < 18446744073709551616) (hm : (x : Int) ≤ most) : Nx (nb x ++ r) 0 most x (nb x).length 0 := by
  have e : ext (Go.Proofs.Ythokfnbmjkekfaa.nb x ++ r) = (Go.Proofs.Ythokfnbmjkekfaa.nb x).length := ext_nb x r
  refine .inr (.inr (.inr (.inr ⟨rfl, ?_, ?_, ?_, ?_, ?_, rfl⟩)))
  · rw [e]; exact nb_pos x
  · rw [e, List.take_left']; exact fit_nb hx; rfl
  · rw [e, List.take_left', gval_nb]; exact hm; rfl
  · rw [e, List.take_left', gval_nb]; rfl
  · exact e.symm
theorem peek_any (b g : Nat) (bs : List Int) (a : Nat) (er most x : Int) (k : Nat) (E : Int) (w : World) (h : IsRd w b g bs a er) (hN : Nx bs er most x k E) : Calls Try.prog 30 #[.pointer (some ⟨b, 0, none⟩), .int .u64 most] w (Peeks w x k E) := by
  rcases hN with ⟨h1, rfl, rfl, rfl⟩ | ⟨rfl, h1, rfl, rfl, rfl⟩ | ⟨rfl, h1, h2, rfl, rfl, rfl⟩ | ⟨rfl, h1, h2, h3, rfl, rfl, rfl⟩ | ⟨rfl, h1, h2, h3, rfl, rfl, rfl⟩
  · exact peek_err b g bs a E most w h h1
  · exact peek_short b g bs a most w h h1
  · exact peek_form b g bs a most _ w h rfl h1 h2
  · exact (peek_num b g bs a most _ _ w h rfl h1 h2 rfl).mono fun e w' ⟨p1, p2⟩ => p1 h3
  · exact (peek_num b g bs a most _ _ w h rfl h1 h2 rfl).mono fun e w' ⟨p1, p2⟩ => p2 h3

theorem upto_nil (most : Int) (w : World) : Calls Try.prog 18 #[.pointer none, .int .u64 most] w fun e w' => e = .returned (.int .u64 0) ∧ w = w' := by
  go_enter Try.func18, Try.ntmps18
  go_wp2_with (first
    | (go_at_call 30; refine (peek_nil most _).mono ?_; rintro e w' ⟨rfl, rfl⟩)
    | (go_at_call 31; refine (fail_nil 1 _).mono ?_; rintro e w' ⟨rfl, rfl⟩))
  go_ret
  exact ⟨rfl, rfl⟩
theorem upto_no (b g : Nat) (bs : List Int) (a : Nat) (er most x : Int) (k : Nat) (E : Int) (w : World) (h : IsRd w b g bs a er) (hN : Nx bs er most x k E) (hE : E ≠ 0) : Calls Try.prog 18 #[.pointer (some ⟨b, 0, none⟩), .int .u64 most] w (RdTo w b g (.int .u64 0) [] a E) := by
  have HR := Lib.hid h
  have HN := Lib.hid hN
  have e0 : (E != 0) = true := by simpa using hE
  clear h hN
  go_enter Try.func18, Try.ntmps18
  go_wp2_with (first
    | (go_at_call 30; refine (peek_any b g bs a er most x k E _ HR.out HN.out).mono ?_; rintro e w' ⟨rfl, rfl⟩)
    | (go_at_call 31; refine (fail_any b g bs a er E _ HR.out).mono ?_; rintro e w1 ⟨rfl, R1, o1⟩))
  go_ret
  exact ⟨rfl, R1, o1⟩
theorem upto_yes (b g : Nat) (bs : List Int) (a : Nat) (er most x : Int) (k : Nat) (w : World) (h : IsRd w b g bs a er) (hN : Nx bs er most x k 0) : Calls Try.prog 18 #[.pointer (some ⟨b, 0, none⟩), .int .u64 most] w (RdTo w b g (.int .u64 x) (bs.drop k) (a + k) 0) := by
  obtain ⟨rfl, hk, hk2, hm⟩ := hN.ok
  have HR := Lib.hid h
  have HN := Lib.hid hN
  clear h hN
  go_enter Try.func18, Try.ntmps18
  go_wp2_with (first
    | (go_at_call 30; refine (peek_any b g bs a 0 most x k 0 _ HR.out HN.out).mono ?_; rintro e w' ⟨rfl, rfl⟩)
    | (go_at_call 32; refine (pass_any b g bs a k 0 _ HR.out hk hk2).mono ?_; rintro e w1 ⟨rfl, R1, o1⟩))
  go_ret
  exact ⟨rfl, R1, o1⟩
abbrev top64 : Int := 18446744073709551615
theorem take_nil (w : World) : Calls Try.prog 21 #[.pointer none] w fun e w' => e = .returned (.int .u64 0) ∧ w = w' := by
  go_enter Try.func21, Try.ntmps21
  go_wp2_with (first
    | (go_at_call 18; refine (upto_nil _ _).mono ?_; rintro e w' ⟨rfl, rfl⟩))
  go_ret
  exact ⟨rfl, rfl⟩
theorem take_no (b g : Nat) (bs : List Int) (a : Nat) (er x : Int) (k : Nat) (E : Int) (w : World) (h : IsRd w b g bs a er) (hN : Nx bs er top64 x k E) (hE : E ≠ 0) : Calls Try.prog 21 #[.pointer (some ⟨b, 0, none⟩)] w (RdTo w b g (.int .u64 0) [] a E) := by
  have HU := Lib.hid (upto_no b g bs a er top64 x k E w h hN hE)
  clear h hN hE
  go_enter Try.func21, Try.ntmps21
  go_wp2_with (first
    | (go_at_call 18; refine HU.out.mono ?_; rintro e w1 ⟨rfl, R1, o1⟩))
  go_ret
  exact ⟨rfl, R1, o1⟩
theorem take_yes (b g : Nat) (bs : List Int) (a : Nat) (er x : Int) (k : Nat) (w : World) (h : IsRd w b g bs a er) (hN : Nx bs er top64 x k 0) : Calls Try.prog 21 #[.pointer (some ⟨b, 0, none⟩)] w (RdTo w b g (.int .u64 x) (bs.drop k) (a + k) 0) := by
  have HU := Lib.hid (upto_yes b g bs a er top64 x k w h hN)
  clear h hN
  go_enter Try.func21, Try.ntmps21
  go_wp2_with (first
    | (go_at_call 18; refine HU.out.mono ?_; rintro e w1 ⟨rfl, R1, o1⟩))
  go_ret
  exact ⟨rfl, R1, o1⟩
theorem int_nil (w : World) : Calls Try.prog 15 #[.pointer none] w fun e w' => e = .returned (.int .i64 0) ∧ w = w' := by
  go_enter Try.func15, Try.ntmps15
  go_wp2_with (first
    | (go_at_call 21; refine (take_nil _).mono ?_; rintro e w' ⟨rfl, rfl⟩)
    | (go_at_call 28; refine (sign_any 0 _ (by decide)).mono ?_; rintro e w' ⟨rfl, rfl⟩))
  go_ret
  exact ⟨rfl, rfl⟩
theorem int_no (b g : Nat) (bs : List Int) (a : Nat) (er x : Int) (k : Nat) (E : Int) (w : World) (h : IsRd w b g bs a er) (hN : Nx bs er top64 x k E) (hE : E ≠ 0) : Calls Try.prog 15 #[.pointer (some ⟨b, 0, none⟩)] w (RdTo w b g (.int .i64 0) [] a E) := by
  have HU := Lib.hid (take_no b g bs a er x k E w h hN hE)
  clear h hN hE
  go_enter Try.func15, Try.ntmps15
  go_wp2_with (first
    | (go_at_call 21; refine HU.out.mono ?_; rintro e w1 ⟨rfl, R1, o1⟩)
    | (go_at_call 28; refine (sign_any 0 _ (by decide)).mono ?_; rintro e w' ⟨rfl, rfl⟩))
  go_ret
  exact ⟨rfl, R1, o1⟩
theorem int_yes (b g : Nat) (bs : List Int) (a : Nat) (er x : Int) (k : Nat) (w : World) (h : IsRd w b g bs a er) (hN : Nx bs er top64 x k 0) (hx : 0 ≤ x) : Calls Try.prog 15 #[.pointer (some ⟨b, 0, none⟩)] w (RdTo w b g (.int .i64 (sg x)) (bs.drop k) (a + k) 0) := by
  have HU := Lib.hid (take_yes b g bs a er x k w h hN)
  have HX := Lib.hid hN.ok.2.2.2
  clear h hN
  go_enter Try.func15, Try.ntmps15
  go_wp2_with (first
    | (go_at_call 21; refine HU.out.mono ?_; rintro e w1 ⟨rfl, R1, o1⟩)
    | (go_at_call 28; refine (sign_any x _ ⟨hx, HX.out⟩).mono ?_; rintro e w' ⟨rfl, rfl⟩))
  go_ret
  exact ⟨rfl, R1, o1⟩
end Go.Proofs.Ythokfnbmjkekfaa
