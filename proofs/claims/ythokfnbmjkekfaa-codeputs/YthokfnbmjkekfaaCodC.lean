/- Package code: Put. -/
import Derived.Test.YthokfnbmjkekfaaCodB
import Derived.WalkMore
namespace Go.Proofs.Ythokfnbmjkekfaa
open Go.RowKit
set_option linter.unusedVariables false

/-- Numbers that are only read: nothing, or they lie in block g from some place on. -/
def LsK (k : IntKind) (w : World) (g : Nat) (A : Option Addr) (zs : List Int) : Prop := zs = [] ∨ ∃ off, A = some ⟨g, off, none⟩ ∧ ∀ i, i < zs.length → w.cell? ⟨g, off + i, none⟩ = some (.int k (zs[i]?.getD 0))
theorem LsK.kept {k : IntKind} {w w' : World} {g : Nat} {A : Option Addr} {zs : List Int} (h : LsK k w g A zs) (o : Below w.heap.size w w') : LsK k w' g A zs := by
  rcases h with h | ⟨off, rfl, h⟩
  · exact .inl h
  · exact .inr ⟨off, rfl, fun i hi => cell_kept o (h i hi)⟩
/-- The bytes of numbers. -/
def puts (xs : List Int) : List Int := xs.flatMap fun x => nb x.toNat
theorem puts_take {xs : List Int} {k : Nat} (h : k < xs.length) : puts (xs.take (k + 1)) = puts (xs.take k) ++ nb (xs[k]?.getD 0).toNat := by
  rw [take_snoc7 h]; simp [puts]
theorem puts_few : ∀ (xs : List Int), (∀ x ∈ xs, 0 ≤ x ∧ x ≤ 18446744073709551615) → (puts xs).length ≤ 10 * xs.length
  | [], _ => by simp [puts]
  | x :: xs, h => by
    have h1 := puts_few xs (fun y hy => h y (List.mem_cons_of_mem _ hy))
    have h2 := (nb_ten (x := x.toNat) (by have := h x (by simp); omega)).1
    have e : puts (x :: xs) = nb x.toNat ++ puts xs := rfl
    rw [e, List.length_append, List.length_cons]
    omega
theorem nbi_low {y : Int} (h : 0 ≤ y) (h1 : y < 128) : nb y.toNat = [y] := by rw [nb_low (by omega)]; congr 1; omega
theorem nbi_high {y : Int} (h1 : 128 ≤ y) : nb y.toNat = (y % 128 + 128) :: nb (y / 128).toNat := by
  rw [nb_high (by omega)]; congr 1
  · omega
  · congr 1; omega

def PutInv (w : World) (ys xs : List Int) (L : Nat) (gh : Nat) (vo vi : Value) (wr : World) : Prop :=
  ∃ k : Nat, vi = .int .i64 (k : Int) ∧ L - k = gh ∧ k ≤ L ∧ OwnB wr w.heap.size vo (ys ++ puts (xs.take k)) ∧ Below w.heap.size w wr
def GrpInv (w : World) (T : List Int) (gh : Nat) (vo vx : Value) (wr : World) : Prop :=
  ∃ (y : Int) (zs : List Int), vx = .int .u64 y ∧ y.toNat = gh ∧ 0 ≤ y ∧ y ≤ 18446744073709551615 ∧ zs ++ nb y.toNat = T ∧ OwnB wr w.heap.size vo zs ∧ Below w.heap.size w wr

set_option maxRecDepth 100000 in
set_option maxHeartbeats 1000000 in
theorem put_any (A : Option Addr) (m c : Nat) (ys : List Int) (g L cl : Nat) (B : Option Addr) (xs : List Int) (w : World) (hb : Src .u8 w A m c ys) (hl : LsK .u64 w g B xs) (hL : xs.length = L) (hx : ∀ x ∈ xs, 0 ≤ x ∧ x ≤ 18446744073709551615) (hm : m ≤ 1000000) (hLm : L ≤ 1000000) :
    Calls Try.prog 7 #[.slice A m c, .slice B L cl] w (ListOf w (ys ++ puts xs)) := by
  have HM := Lib.hid hb.1
  have HB := Lib.hid hb
  have HV := Lib.hid hl
  have HL := Lib.hid hL
  have HX := Lib.hid hx
  clear hb hl hL hx
  go_enter Try.func7, Try.ntmps7
  go_wp2
  go_step3
  go_wp2_with (go_at_call 26; refine (cloneB_any A m c ys _ HB.out hm).mono ?_; rintro e w1 ⟨v1, rfl, O1, B1⟩)
  go_step3
  go_wp2
  go_loopg [5, 12] L (fun gh vo vi wr => PutInv w ys xs L gh vo vi wr)
  case atStart => exact ⟨0, rfl, rfl, by omega, by simpa [puts] using O1, B1⟩
  case round =>
    clear O1 B1
    obtain ⟨k, rfl, rfl, hk, hO, hB⟩ := hrel
    by_cases hlt : k < L
    · have k0 : (0 : Int) ≤ (k : Int) := by omega
      have k1 : (k : Int) < (L : Int) := by omega
      have hk2 : k < xs.length := by rw [HL.out]; exact hlt
      have hxk := HX.out (xs[k]?.getD 0) (by rw [List.getElem?_eq_getElem hk2]; exact List.getElem_mem _)
      have ET := Lib.hid (puts_take hk2)
      rcases HV.out.kept hB with h0 | ⟨off, rfl, hc⟩
      · simp [h0] at hk2
      have c0 := hc k hk2
      generalize xs[k]?.getD 0 = x at c0 hxk ET
      clear hc hk2
      obtain ⟨x0, x1⟩ := hxk
      go_wp2_with fail
      go_loopg [5, 7] x.toNat (fun gh vo vx wr => GrpInv w (ys ++ puts (xs.take (k + 1))) gh vo vx wr)
      case atStart => exact ⟨x, _, rfl, rfl, x0, x1, by rw [ET.out, List.append_assoc], hO, hB⟩
      case round =>
        clear hO hB c0
        obtain ⟨y, zs, rfl, rfl, y0, y1, hT, hO, hB⟩ := hrel
        have hlen : (ys ++ puts (xs.take (k + 1))).length ≤ 100000000 := by
          have h1 := puts_few (xs.take (k + 1)) (fun z hz => HX.out z (List.mem_of_mem_take hz))
          have h2 : (xs.take (k + 1)).length ≤ k + 1 := List.length_take_le _ _
          have h3 := HM.out
          rw [List.length_append]; omega
        have hnb := nb_pos y.toNat
        have hz1 : zs.length + 1 ≤ 1000000000 := by rw [← hT, List.length_append] at hlen; omega
        clear hnb hlen
        obtain ⟨n1, hn1⟩ : ∃ n1, zs.length + 1 = n1 := ⟨_, rfl⟩
        have HN := Lib.hid hn1
        rw [hn1] at hz1
        have hs := hB.size
        have HT := Lib.hid hT
        have HO := Lib.hid hO
        clear hT hO hn1
        by_cases hy : y < 128
        · have e8 : IntKind.u8.wrap y = y := by rw [IntKind.wrap_u8]; omega
          go_wp2_with (first
            | (at_builtin; refine wp_pushK elB (by rfl) _ _ (by rfl) w.heap.size _ zs y _ 1 (by rfl) (by rfl) ((At.new wr [.int .u8 y] _).cell 0 rfl) (HO.out.alloc _) n1 HN.out hz1 (alloc_le hs _) _ rfl ?_; intro g1 c1 w3 O3 G3 hat3 hlt3))
          go_roundg (L - (k + 1))
          case measure => omega
          case rel => exact ⟨k + 1, by go_num, rfl, by omega, by rw [← HT.out, nbi_low y0 hy]; exact O3, hB.trans ((Below.alloc (Below.refl _ _) hs _).trans (below_push (HO.out.alloc _) G3 (alloc_le hs _)))⟩
        · have e8 : IntKind.u8.wrap y = y % 256 := IntKind.wrap_u8 _
          have eo : bits .or .u8 (y % 256) 128 = y % 128 + 128 := by rw [or_more _ (by omega)]; omega
          go_wp2_with (first
            | (at_builtin; refine wp_pushK elB (by rfl) _ _ (by rfl) w.heap.size _ zs (y % 128 + 128) _ 1 (by rfl) (by rfl) ((At.new wr [.int .u8 (y % 128 + 128)] _).cell 0 rfl) (HO.out.alloc _) n1 HN.out hz1 (alloc_le hs _) _ rfl ?_; intro g1 c1 w3 O3 G3 hat3 hlt3))
          go_roundg (y / 128).toNat
          case measure => omega
          case rel => exact ⟨y / 128, _, rfl, rfl, by omega, by omega, by rw [← HT.out, nbi_high (y := y) (by omega)]; simp, O3, hB.trans ((Below.alloc (Below.refl _ _) hs _).trans (below_push (HO.out.alloc _) G3 (alloc_le hs _)))⟩
    · obtain rfl : k = L := by omega
      have e1 : xs.take k = xs := List.take_of_length_le (by have := HL.out; omega)
      rw [e1] at hO
      have HO := Lib.hid hO
      clear hO e1
      go_wp2_with fail
      go_ret
      exact ⟨_, rfl, HO.out, hB⟩
end Go.Proofs.Ythokfnbmjkekfaa
