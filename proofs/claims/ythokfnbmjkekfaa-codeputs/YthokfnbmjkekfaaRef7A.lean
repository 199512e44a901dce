/- The document's own answers of layer 7: Put. -/
import Derived.Test.YthokfnbmjkekfaaCodC
namespace Go.Proofs.Ythokfnbmjkekfaa
open Go.RowKit
set_option linter.unusedVariables false

set_option maxRecDepth 100000 in
set_option maxHeartbeats 1000000 in
theorem refPut7_any (A : Option Addr) (m c : Nat) (ys : List Int) (x : Int) (w : World) (hb : Src .u8 w A m c ys) (x0 : 0 ≤ x) (x1 : x ≤ 18446744073709551615) (hm : m ≤ 1000000) :
    Calls Try.prog 8 #[.slice A m c, .int .u64 x] w (ListOf w (ys ++ nb x.toNat)) := by
  have HL : Hid (([] : List Int).length + ys.length ≤ 1000000000) := Lib.hid (by have := hb.1; simp; omega)
  have HM := Lib.hid hb.1
  have HB := Lib.hid hb
  clear hb
  have hx := (nb_ten (x := x.toNat) (by omega)).1
  go_enter Try.func8, Try.ntmps8
  go_wp2_with (first
    | (at_builtin; refine wp_catK elB (by rfl) _ _ (by rfl) w.heap.size _ [] _ _ _ ys (by rfl) (by rfl) (HB.out.kept (new_alloc (new_refl w) _)) (OwnK.made0 (Nat.le_refl _)) HL.out (alloc_le (Nat.le_refl _) _) ?_; intro v1 w1 O1 G1 hat1))
  have B1 := (new_alloc (new_refl w) _).trans (below_push (OwnK.made0 (k := .u8) (Nat.le_refl _)) G1 (alloc_le (Nat.le_refl _) _))
  clear G1 hat1
  go_loopg [5, 1] x.toNat (fun gh vo vx wr => GrpInv w (ys ++ nb x.toNat) gh vo vx wr)
  case atStart => exact ⟨x, _, rfl, rfl, x0, x1, rfl, O1, B1⟩
  case round =>
    clear O1 B1
    obtain ⟨y, zs, rfl, rfl, y0, y1, hT, hO, hB⟩ := hrel
    have hnb := nb_pos y.toNat
    have hz1 : zs.length + 1 ≤ 1000000000 := by
      have h3 := HM.out
      have h4 := congrArg List.length hT
      rw [List.length_append, List.length_append] at h4; omega
    clear hnb
    obtain ⟨n1, hn1⟩ : ∃ n1, zs.length + 1 = n1 := ⟨_, rfl⟩
    have HN := Lib.hid hn1
    rw [hn1] at hz1
    have hs := hB.size
    have HT := Lib.hid hT
    have HO := Lib.hid hO
    clear hT hO hn1
    by_cases hy : y < 128
    · have e8 : IntKind.u8.wrap y = y := by rw [IntKind.wrap_u8]; omega
      go_wp2_with (first
        | (at_builtin; refine wp_pushK elB (by rfl) _ _ (by rfl) w.heap.size _ zs y _ 1 (by rfl) (by rfl) ((At.new wr [.int .u8 y] _).cell 0 rfl) (HO.out.alloc _) n1 HN.out hz1 (alloc_le hs _) _ rfl ?_; intro g1 c1 w3 O3 G3 hat3 hlt3))
      go_ret
      exact ⟨_, rfl, by rw [← HT.out, nbi_low y0 hy]; exact O3, hB.trans ((Below.alloc (Below.refl _ _) hs _).trans (below_push (HO.out.alloc _) G3 (alloc_le hs _)))⟩
    · have e8 : IntKind.u8.wrap (y % 128 + 128) = y % 128 + 128 := by rw [IntKind.wrap_u8]; omega
      go_wp2_with (first
        | (at_builtin; refine wp_pushK elB (by rfl) _ _ (by rfl) w.heap.size _ zs (y % 128 + 128) _ 1 (by rfl) (by rfl) ((At.new wr [.int .u8 (y % 128 + 128)] _).cell 0 rfl) (HO.out.alloc _) n1 HN.out hz1 (alloc_le hs _) _ rfl ?_; intro g1 c1 w3 O3 G3 hat3 hlt3))
      go_roundg (y / 128).toNat
      case measure => omega
      case rel => exact ⟨y / 128, _, rfl, rfl, by omega, by omega, by rw [← HT.out, nbi_high (y := y) (by omega)]; simp, O3, hB.trans ((Below.alloc (Below.refl _ _) hs _).trans (below_push (HO.out.alloc _) G3 (alloc_le hs _)))⟩
end Go.Proofs.Ythokfnbmjkekfaa
