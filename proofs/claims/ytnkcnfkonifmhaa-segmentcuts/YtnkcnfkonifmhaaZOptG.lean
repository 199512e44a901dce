/- Package option: check, put. -/
import Derived.Test.YtnkcnfkonifmhaaZOptF
import Derived.Test.YtnkcnfkonifmhaaZFlgA
namespace Go.Proofs.Ytnkcnfkonifmhaa
open Go.RowKit
set_option linter.unusedVariables false

/-- As many bytes, but not more than one too many. -/
def mnO (many : Nat) : Int := if many ≤ 41 then (many : Int) else 41
theorem mn_bd (many : Nat) : 0 ≤ mnO many ∧ mnO many ≤ 41 := by unfold mnO; split <;> omega
theorem mn_lt {many l : Nat} (h : mnO many + (l : Int) < 41) : mnO many + (l : Int) = mnO (many + l) := by unfold mnO at *; split at h <;> split <;> omega
theorem mn_eq {many l : Nat} (h : mnO many + (l : Int) = 41) : 41 = mnO (many + l) := by unfold mnO at *; split at h <;> split <;> omega
theorem mn_gt {many l : Nat} (h : 41 < mnO many + (l : Int)) : 41 = mnO (many + l) := by unfold mnO at *; split at h <;> split <;> omega
theorem chk_step {os : List Opt} {i many : Nat} (h : i < os.length) : chkO (os.take i) (os.drop i) many = if fineO os[i] = true then (if hadO (os.take i) os[i].k = true then 5 else chkO (os.take (i + 1)) (os.drop (i + 1)) (many + lenO os[i])) else 2 := by
  rw [List.drop_eq_getElem_cons h, chkO, List.take_succ_eq_append_getElem h]
theorem chk_nth {xs : List OC} {i n many : Nat} (hn : xs.length = n) (h : i < n) : chkO ((xs.map OC.o).take i) ((xs.map OC.o).drop i) many = if fineO (nthO xs i).o = true then (if hadO ((xs.map OC.o).take i) (nthO xs i).o.k = true then 5 else chkO ((xs.map OC.o).take (i + 1)) ((xs.map OC.o).drop (i + 1)) (many + lenO (nthO xs i).o)) else 2 := by
  rw [chk_step (by simp; omega), map_oc (by omega)]
theorem chk_end {os : List Opt} {i many : Nat} (h : os.length = i) : chkO (os.take i) (os.drop i) many = if 40 < many then 4 else 0 := by
  rw [List.drop_of_length_le (by omega), chkO]
theorem ks_nth {xs : List OC} {ks : List Int} {i n : Nat} (hn : xs.length = n) (hi : i < n) (h : KsOf ((xs.map OC.o).take i) ks) : KsOf ((xs.map OC.o).take (i + 1)) (addO ks (nthO xs i).o.k) := by
  rw [List.take_succ_eq_append_getElem (by simp; omega), map_oc (by omega)]
  exact ks_more h _
/-- The closure writes nothing but its own. -/
theorem was_below {w w' : World} {base : Nat} (o : Out (WasF w base) w w') (hb : base ≤ w.heap.size) : Below base w w' := o.below hb (fun k h => h.1)
theorem was_apart {w : World} {base g : Nat} (h : TyAt w g 76) : ¬ WasF w base g := by
  rintro ⟨_, t | t⟩
  · exact absurd (ty_one t h) (by decide)
  · exact absurd (ty_one t h) (by decide)
theorem was_apartN {w : World} {base g : Nat} (h : TyAt w g 25) : ¬ WasF w base g := by
  rintro ⟨_, t | t⟩
  · exact absurd (ty_one t h) (by decide)
  · exact absurd (ty_one t h) (by decide)
def ChkI (w : World) (xs : List OC) (T : Int) (n gh : Nat) (vs vi : Value) (wr : World) : Prop :=
  ∃ (i many : Nat) (ks : List Int), vi = .int .i64 (i : Int) ∧ n - i = gh ∧ i ≤ n ∧ vs = .int .i64 (mnO many) ∧ WasAt wr w.heap.size w.heap.size ks ∧ KsOf ((xs.map OC.o).take i) ks ∧ chkO ((xs.map OC.o).take i) ((xs.map OC.o).drop i) many = T ∧ Below w.heap.size w wr
theorem len_few {w : World} {x : OC} (hx : HasO w x) : lenO x.o ≤ 502 := by
  have h1 : szO x.o.k * x.o.zs.length ≤ 4 * 100 := Nat.mul_le_mul (sz_four _) (by rw [hx.len]; exact hx.few)
  have h2 := hx.txt
  unfold lenO; omega
set_option maxRecDepth 100000 in
set_option maxHeartbeats 2000000 in
theorem check_any (A : Option Addr) (n c : Nat) (xs : List OC) (w : World) (hx : OptsAt w A n xs) (hn : n ≤ 100) :
    Calls Try.prog 36 #[.slice A n c] w fun e w' => e = .returned (.int .i64 (chkO [] (xs.map OC.o) 0)) ∧ Below w.heap.size w w' := by
  have HX := Lib.hid hx
  obtain ⟨T, hT⟩ : ∃ T, chkO [] (xs.map OC.o) 0 = T := ⟨_, rfl⟩
  rw [hT]
  have HT := Lib.hid hT
  clear hx hT
  go_enter Try.func36, Try.ntmps36
  go_wp2_with (first
    | (go_at_call 50; refine (again_any _).mono ?_; rintro e w1 ⟨rfl, rfl⟩))
  go_loopg [4, 10] n (fun gh vs vi wr => ChkI w xs T n gh vs vi wr)
  case atStart => exact ⟨0, 0, [], rfl, rfl, by omega, rfl, was_new w, ks_nil, by simpa using HT.out, new_alloc (new_refl w) _⟩
  case round =>
    obtain ⟨i, many, ks, rfl, rfl, hi, rfl, hw, hks, hc, hB⟩ := hrel
    have HK := Lib.hid hks
    have HC := Lib.hid hc
    have HWs := Lib.hid hw
    clear hks hc hw
    have hnl := HX.out.len
    by_cases hlt : i < n
    · have k0 : (0 : Int) ≤ (i : Int) := by omega
      have k1 : (i : Int) < (n : Int) := by omega
      obtain ⟨g, off, rfl, T0, h0, g0⟩ := HX.out.at hlt
      obtain ⟨c0, c1, c2⟩ := T0.kept hB
      have HS := Lib.hid (chk_nth (many := many) hnl hlt)
      have HN := Lib.hid (ks_nth hnl hlt HK.out)
      have hkl : ks.length ≤ 1000 := by have := HK.out.2; rw [List.length_take] at this; omega
      have HA := Lib.hid (HK.out.1 (nthO xs i).o.k)
      have hlen := len_few h0
      have H0 := Lib.hid h0
      have hz := hB.size
      clear h0 hnl T0
      generalize nthO xs i = x at *
      have A1 := Blk.new wr [.int .i64 x.o.k, .slice x.a x.n x.c, .string x.o.s] 76
      have L1 := new_alloc hB (.cells #[.int .i64 x.o.k, .slice x.a x.n x.c, .string x.o.s] 76)
      have M1 := new_alloc (new_refl wr) (.cells #[.int .i64 x.o.k, .slice x.a x.n x.c, .string x.o.s] 76)
      have hbd := mn_bd many
      cases hf : fineO x.o
      · go_wp2_with (first
          | (go_at_call 60; refine (within_any x _ (H0.out.kept L1)).mono ?_; rw [hf]; rintro e w1 ⟨rfl, B1⟩))
        go_ret
        exact ⟨ret_int (by rw [← HC.out, HS.out, hf]; rfl), new_then L1 B1⟩
      · cases hh : hadO ((xs.map OC.o).take i) x.o.k
        · have HT2 : Hid (chkO ((xs.map OC.o).take (i + 1)) ((xs.map OC.o).drop (i + 1)) (many + lenO x.o) = T) := Lib.hid (by rw [← HC.out, HS.out, hf, hh]; rfl)
          rcases Int.lt_trichotomy (mnO many + (lenO x.o : Int)) 41 with hm | hm | hm
          case' inl => have HM := Lib.hid (mn_lt hm)
          case' inr.inl => have HM := Lib.hid (mn_eq hm)
          case' inr.inr => have HM := Lib.hid (mn_gt hm)
          all_goals
            generalize mnO many = s at *
            go_wp2_with (first
              | (go_at_call 60; refine (within_any x _ (H0.out.kept L1)).mono ?_; rw [hf]; rintro e w1 ⟨rfl, B1⟩; have A2 := A1.kept B1; have a0 := A2.cell 0 rfl; have L2 := new_then L1 B1; have M2 := new_then M1 B1)
              | (go_at_call 66; refine (was_any w.heap.size w.heap.size ks x.o.k _ (HWs.out.kept M2) L2.size hkl).mono ?_; rintro e w2 ⟨he, W3, o3⟩; rw [HA.out, hh] at he; subst he; have A3 := A2.out o3 (was_apart ⟨_, A2⟩); have b0 := A3.cell 0 rfl; have b1 := A3.cell 1 rfl; have b2 := A3.cell 2 rfl; have L3 := L2.trans (was_below o3 L2.size))
              | (go_at_call 61; refine (length_any x _ (H0.out.kept L3)).mono ?_; rintro e w3 ⟨rfl, B4⟩))
            go_roundg (n - (i + 1))
            case measure => omega
            case rel => exact ⟨i + 1, many + lenO x.o, addO ks x.o.k, by go_num, rfl, by omega, by rw [← HM.out], W3.kept B4, HN.out, HT2.out, new_then L3 B4⟩
        · go_wp2_with (first
            | (go_at_call 60; refine (within_any x _ (H0.out.kept L1)).mono ?_; rw [hf]; rintro e w1 ⟨rfl, B1⟩; have A2 := A1.kept B1; have a0 := A2.cell 0 rfl; have L2 := new_then L1 B1; have M2 := new_then M1 B1)
            | (go_at_call 66; refine (was_any w.heap.size w.heap.size ks x.o.k _ (HWs.out.kept M2) L2.size hkl).mono ?_; rintro e w2 ⟨he, W3, o3⟩; rw [HA.out, hh] at he; subst he; have L3 := L2.trans (was_below o3 L2.size)))
          go_ret
          exact ⟨ret_int (by rw [← HC.out, HS.out, hf, hh]; rfl), L3⟩
    · obtain rfl : i = n := by omega
      have HE := Lib.hid (chk_end (os := xs.map OC.o) (i := i) (many := many) (by simpa using hnl))
      have hbd := mn_bd many
      by_cases hm : 40 < many
      · have h1 : 40 < mnO many := by unfold mnO; split <;> omega
        generalize mnO many = s at *
        go_wp2_with fail
        go_ret
        exact ⟨ret_int (by rw [← HC.out, HE.out, if_pos hm]), hB⟩
      · have h1 : ¬ 40 < mnO many := by unfold mnO; split <;> omega
        have HE2 : Hid (0 = T) := Lib.hid (by rw [← HC.out, HE.out, if_neg hm])
        generalize mnO many = s at *
        go_wp2_with fail
        go_ret
        exact ⟨ret_int HE2.out, hB⟩
end Go.Proofs.Ytnkcnfkonifmhaa
