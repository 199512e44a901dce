/- Package code: what was put is taken. -/
import Derived.Test.YthokfnbmjkekfaaCodK
namespace Go.Proofs.Ythokfnbmjkekfaa
open Go.RowKit
set_option linter.unusedVariables false

theorem nxI {y : Int} (h : 0 ≤ y ∧ y ≤ 18446744073709551615) (r : List Int) {most : Int} (hm : y ≤ most) : Nx (nb y.toNat ++ r) 0 most y (nb y.toNat).length 0 := by
  have e : ((y.toNat : Nat) : Int) = y := by omega
  have := Nx.nb (x := y.toNat) r (most := most) (by omega) (by omega)
  rwa [e] at this
theorem nb_ne (x : Nat) (r : List Int) : nb x ++ r ≠ [] := by
  intro h
  have h1 := congrArg List.length h
  have := nb_pos x
  rw [List.length_append, List.length_nil] at h1
  omega
/-- A number that was put is taken. -/
theorem takeIn {w wr : World} {b g : Nat} {y : Int} {r : List Int} {a a' : Nat} (h : RdIn w b g (nb y.toNat ++ r) a 0 wr) (hy : 0 ≤ y ∧ y ≤ 18446744073709551615) (ha : a + (nb y.toNat).length = a') :
    Calls Try.prog 21 #[.pointer (some ⟨b, 0, none⟩)] wr fun e w' => e = .returned (.int .u64 y) ∧ RdIn w b g r a' 0 w' ∧ Out (fun j => j = b) wr w' :=
  (take_yes b g _ a 0 y _ wr h.1 (nxI hy r hy.2)).mono fun e w' ⟨he, hR, o⟩ => by
    rw [List.drop_left' rfl, ha] at hR
    exact ⟨he, h.turned hR (fun e => absurd e (nb_ne _ _)) o, o⟩
theorem intIn {w wr : World} {b g : Nat} {x : Int} {r : List Int} {a a' : Nat} (h : RdIn w b g (nb (zz x).toNat ++ r) a 0 wr) (hx : -9223372036854775808 ≤ x ∧ x ≤ 9223372036854775807) (ha : a + (nb (zz x).toNat).length = a') :
    Calls Try.prog 15 #[.pointer (some ⟨b, 0, none⟩)] wr fun e w' => e = .returned (.int .i64 x) ∧ RdIn w b g r a' 0 w' ∧ Out (fun j => j = b) wr w' :=
  (int_yes b g _ a 0 (zz x) _ wr h.1 (nxI (zz_bd hx) r (zz_bd hx).2) (zz_bd hx).1).mono fun e w' ⟨he, hR, o⟩ => by
    rw [List.drop_left' rfl, ha] at hR
    rw [sg_zz] at he
    exact ⟨he, h.turned hR (fun e => absurd e (nb_ne _ _)) o, o⟩
theorem textIn {w wr : World} {b g : Nat} {s : ByteArray} {r : List Int} {a a' : Nat} {m : Int} (h : RdIn w b g (nb s.size ++ (sb s ++ r)) a 0 wr) (hm : (s.size : Int) ≤ m) (hm2 : m ≤ 9223372036854775807) (ha : a + ((nb s.size).length + s.size) = a') :
    Calls Try.prog 19 #[.pointer (some ⟨b, 0, none⟩), .int .i64 m] wr fun e w' => e = .returned (.string s) ∧ RdIn w b g r a' 0 w' ∧ Out (fun j => j = b) wr w' := by
  have hx : mx m = m := by have := mx_is m; omega
  have hN : Nx (nb s.size ++ (sb s ++ r)) 0 (mx m) (s.size : Int) (nb s.size).length 0 := by
    rw [hx]
    exact Nx.nb (x := s.size) (sb s ++ r) (by omega) hm
  have hl := sb_len s
  refine (text_yes b g _ a 0 m _ s.size s wr (by omega) h.1 hN ?_ ?_).mono fun e w' ⟨he, hR, o⟩ => ?_
  · rw [List.length_append, List.length_append]; omega
  · rw [List.drop_left' rfl, List.take_left' hl, sb_back]
  · rw [show nb s.size ++ (sb s ++ r) = (nb s.size ++ sb s) ++ r by rw [List.append_assoc], List.drop_left' (by rw [List.length_append, hl]), ha] at hR
    exact ⟨he, h.turned hR (fun e => absurd e (nb_ne _ _)) o, o⟩
end Go.Proofs.Ythokfnbmjkekfaa
