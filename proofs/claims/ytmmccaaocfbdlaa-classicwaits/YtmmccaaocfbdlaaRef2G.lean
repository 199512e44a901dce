/- The document's own answers of layer 2, by bits: quotients. -/
import Derived.Test.YtmmccaaocfbdlaaRef2F
namespace Go.Proofs.Ytmmccaaocfbdlaa
open Go.RowKit
set_option linter.unusedVariables false

theorem cmp_ge (m n : Int) : (0 ≤ cmpI m n) ↔ n ≤ m := by unfold cmpI; split <;> (try split) <;> omega

def DivInv (a : List Int) (D : Int) (na : Nat) (w : World) (gk : Nat) (vr vi : Value) (wr : World) : Prop :=
  ∃ (k n g c : Nat) (rs qs : List Int), k ≤ na ∧ gk = k ∧ vi = .int .i64 ((k : Int) - 1) ∧ vr = .slice (some ⟨g, 0, none⟩) n c ∧ 0 < n ∧ n + k ≤ na + 1 ∧ Own wr (w.heap.size + 1) (.slice (some ⟨g, 0, none⟩) n c) rs ∧ IsBits rs ∧
    Own wr w.heap.size (.slice (some ⟨w.heap.size, 0, none⟩) na na) qs ∧ IsBits qs ∧ (∀ i, i < k → bitAt qs i = 0) ∧ val (a.drop k) = val (qs.drop k) * D + val rs ∧ (0 ≤ val rs ∧ val rs < D) ∧ Below w.heap.size w wr

theorem div_low {a qs : List Int} {D r : Int} {j : Nat} (e : val (a.drop (j + 1)) = val (qs.drop (j + 1)) * D + r) (hq : bitAt qs j = 0) : val (a.drop j) = val (qs.drop j) * D + (bitAt a j + 2 * r) := by
  rw [val_drop a, val_drop qs, e, hq, Int.zero_add, Int.mul_add, Int.mul_assoc]; omega
theorem div_high {a qs : List Int} {D r : Int} {j : Nat} (e : val (a.drop (j + 1)) = val (qs.drop (j + 1)) * D + r) (hj : j < qs.length) : val (a.drop j) = val ((qs.set j 1).drop j) * D + (bitAt a j + 2 * r - D) := by
  rw [val_drop a, set_val hj, e, Int.add_mul, Int.one_mul, Int.mul_add, Int.mul_assoc]; omega
theorem set_low {qs : List Int} {i j : Nat} (h : i < j) : bitAt (qs.set j 1) i = bitAt qs i := by unfold bitAt; rw [List.getElem?_set_ne (by omega)]
theorem bitAt_zeros (n i : Nat) : bitAt (List.replicate n 0) i = 0 := by
  unfold bitAt; rw [List.getElem?_replicate]; split <;> rfl
theorem drop_zeros (n k : Nat) (h : n ≤ k) : val ((List.replicate n (0 : Int)).drop k) = 0 := by rw [List.drop_eq_nil_of_le (by simpa using h)]; rfl

def GivesDiv (w : World) (na : Nat) (x D : Int) (e : Ending) (w' : World) : Prop :=
  ∃ gq cq g n c qs rs, e = .returned (.tuple #[.slice (some ⟨gq, 0, none⟩) na cq, .slice (some ⟨g, 0, none⟩) n c]) ∧ 0 < n ∧ n ≤ na + 1 ∧ Own w' w.heap.size (.slice (some ⟨gq, 0, none⟩) na cq) qs ∧ IsBits qs ∧ val qs = x / D ∧
    Own w' w.heap.size (.slice (some ⟨g, 0, none⟩) n c) rs ∧ IsBits rs ∧ val rs = x % D ∧ Below w.heap.size w w'

set_option maxHeartbeats 1000000 in
theorem refDiv2_any (ga na ca gd nd cd : Nat) (a d : List Int) (w : World) (ra : Rd w ga na ca a) (rd : Rd w gd nd cd d) (ha : IsBits a) (hd : IsBits d) (hl : na ≤ 100000) (hl' : nd ≤ 100000) (hD : 0 < val d) :
    Calls Try.prog 33 #[.slice (some ⟨ga, 0, none⟩) na ca, .slice (some ⟨gd, 0, none⟩) nd cd] w (GivesDiv w na (val a) (val d)) := by
  have mk := make_ints na (by omega)
  go_enter Try.func33, Try.ntmps33
  go_wp2
  go_loopg [7, 8] na (fun g vr vi wr => DivInv a (val d) na w g vr vi wr)
  case atStart =>
    refine ⟨na, 1, w.heap.size + 1, 1, [0], List.replicate na 0, by omega, rfl, rfl, rfl, by omega, by omega, ?_, bits_one (.inl rfl), (Own.made w na (by omega)).alloc _, bits_zeros na, fun i _ => bitAt_zeros na i, ?_, ?_, new_alloc (new_alloc (new_refl w) _) _⟩
    · exact Own.one' (by simp) 0
    · rw [List.drop_eq_nil_of_le (by rw [← ra.1]; omega), drop_zeros na na (Nat.le_refl _)]; simp [val]
    · simp [val]; omega
  case round =>
    obtain ⟨k, n, g, c, rs, qs, hk, hg, rfl, rfl, hn0, hn1, hown, hrs, hoq, hqs, hlow, he, hr, hbel⟩ := hrel
    obtain rfl : k = gk := hg.symm
    have HE := Lib.hid he
    have HW := Lib.hid hlow
    have RA := (ra.kept hbel)
    have RD := (rd.kept hbel)
    clear he hg hlow mk
    cases k with
    | zero =>
      go_wp2
      go_ret2
      have q := div_unique hD (by simpa using HE.out) hr.1 hr.2
      exact ⟨_, _, _, _, _, qs, rs, rfl, hn0, hn1, hoq, hqs, q.1.symm, hown.mono (by omega), hrs, q.2.symm, hbel⟩
    | succ j =>
      have ej : ((j + 1 : Nat) : Int) - 1 = j := by omega
      rw [ej]
      clear ej
      have hja : j < na := by omega
      have cx := RA.bit hja
      have bx := bit01 ha j
      have b01 := bits_one (bitAt_01 ha j)
      have lq := hoq.at_.1
      have LQ := Lib.hid lq
      clear lq
      by_cases hc : val d ≤ bitAt a j + 2 * val rs
      · have hcm : 0 ≤ cmpI (val (bitAt a j :: rs)) (val d) := by rw [cmp_ge]; exact hc
        go_wp2_with (first
          | (at_builtin; refine wp_concat (by rfl) _ _ (by rfl) wr.heap.size _ [bitAt a j] g n c rs (by rfl) (by rfl) (Own.one wr (bitAt a j)) (hown.rd.alloc _) hn0 (1 + n) rfl (by omega) (by simp) ?_; intro g1 c1 w1 O1 B0; have B1 : Below wr.heap.size wr w1 := (new_alloc (new_refl wr) _).trans B0)
          | (go_at_call 36; refine (refCmp_any g1 (1 + n) c1 gd nd cd ([bitAt a j] ++ rs) d _ O1.rd (RD.kept B1) (bits_append b01 hrs) hd (by omega) (by omega)).mono ?_; rintro e w2 ⟨rfl, rfl⟩)
          | (go_at_call 42; refine (refSub2_any g1 (1 + n) c1 gd nd cd ([bitAt a j] ++ rs) d _ O1.rd (RD.kept B1) (bits_append b01 hrs) hd (by omega) (by omega) (by omega) hc).mono ?_; rintro e w2 ⟨g2, c2, ys, rfl, O2, b2, v2, B2⟩; have V2 := Lib.hid v2; clear v2; have Q2 := (hoq.kept B1).kept B2; have cq := Q2.rd.bit hja; have fq := Q2.frozen j))
        go_roundg j
        case measure => omega
        case rel =>
          have s1 := hoq.lt.2
          have s2 := B1.size
          have e2 : val ([bitAt a j] ++ rs) = bitAt a j + 2 * val rs := rfl
          refine ⟨j, 1 + n, g2, c2, ys, qs.set j 1, by omega, rfl, rfl, rfl, by omega, by omega, (O2.mono (by omega)).far (by simp) _, b2, Q2.set j 1, bits_set hqs j (.inr rfl), fun i hi => (set_low hi).trans (HW.out i (by omega)), ?_, ?_, (new_then hbel (new_then B1 B2)).setCell (Nat.le_refl _) _⟩
          · rw [V2.out, e2]; exact div_high HE.out (by rw [← LQ.out]; omega)
          · rw [V2.out, e2]; omega
      · have hcm : ¬ 0 ≤ cmpI (val (bitAt a j :: rs)) (val d) := by rw [cmp_ge]; exact hc
        go_wp2_with (first
          | (at_builtin; refine wp_concat (by rfl) _ _ (by rfl) wr.heap.size _ [bitAt a j] g n c rs (by rfl) (by rfl) (Own.one wr (bitAt a j)) (hown.rd.alloc _) hn0 (1 + n) rfl (by omega) (by simp) ?_; intro g1 c1 w1 O1 B0; have B1 : Below wr.heap.size wr w1 := (new_alloc (new_refl wr) _).trans B0)
          | (go_at_call 36; refine (refCmp_any g1 (1 + n) c1 gd nd cd ([bitAt a j] ++ rs) d _ O1.rd (RD.kept B1) (bits_append b01 hrs) hd (by omega) (by omega)).mono ?_; rintro e w2 ⟨rfl, rfl⟩))
        go_roundg j
        case measure => omega
        case rel =>
          have s1 := hoq.lt.2
          have e2 : val ([bitAt a j] ++ rs) = bitAt a j + 2 * val rs := rfl
          refine ⟨j, 1 + n, g1, c1, [bitAt a j] ++ rs, qs, by omega, rfl, rfl, rfl, by omega, by omega, O1.mono (by omega), bits_append b01 hrs, hoq.kept B1, hqs, fun i hi => HW.out i (by omega), ?_, ?_, new_then hbel B1⟩
          · rw [e2]; exact div_low HE.out (HW.out j (by omega))
          · rw [e2]; omega
end Go.Proofs.Ytmmccaaocfbdlaa
