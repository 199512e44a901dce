/- Package option: may an option be (within). The document's fine. -/
import Derived.Test.YtnkcnfkonifmhaaZOptE
namespace Go.Proofs.Ytnkcnfkonifmhaa
open Go.RowKit
set_option linter.unusedVariables false

theorem fine_low {o : Opt} (h : o.k < 2) : fineO o = false := by simp [fineO]; omega
theorem fine_high {o : Opt} (h : 255 < o.k) : fineO o = false := by simp [fineO]; omega
theorem fine_other {o : Opt} (h : ¬ o.k < 2) (h' : ¬ 255 < o.k) (hs : szO o.k = 0) : fineO o = decide ((o.zs.length : Int) = 0) := by
  have e : o.zs.length = 0 ↔ (o.zs.length : Int) = 0 := by omega
  rw [fineO, if_pos hs, decide_eq_true (by omega), decide_eq_true (by omega), Bool.true_and, Bool.true_and, decide_eq_decide]
  exact e
theorem gr_all (W : Nat) (zs : List Int) : zs.all (fun z => decide (z < 256 ^ W)) = !(zs.any (grO W)) := by
  induction zs with
  | nil => rfl
  | cons z zs ih => rw [List.all_cons, List.any_cons, ih, grO]; cases decide (z < 256 ^ W) <;> simp
theorem fine_known {o : Opt} (h : ¬ o.k < 2) (h' : ¬ 255 < o.k) {W : Nat} (hW : szO o.k = W) (hs : W = 2 ∨ W = 3 ∨ W = 4) : fineO o = (mayO o.k o.zs.length && !(o.zs.any (grO W)) && decide (o.s.size = 0)) := by
  rw [fineO, hW, if_neg (by omega), decide_eq_true (by omega), decide_eq_true (by omega), Bool.true_and, Bool.true_and, gr_all]
theorem sz_known {k : Int} {W : Nat} (h : szO k = W) (h0 : W ≠ 0) : W = 2 ∨ W = 3 ∨ W = 4 := by
  unfold szO at h
  split at h
  · omega
  · split at h
    · omega
    · split at h
      · omega
      · split at h <;> omega
theorem str_none {s : ByteArray} (h : s.size = 0) : s = ByteArray.empty := by
  obtain ⟨⟨l⟩⟩ := s
  have : l = [] := List.eq_nil_of_length_eq_zero (by simpa [ByteArray.size] using h)
  subst this; rfl
theorem str_some {s : ByteArray} (h : ¬ s.size = 0) : s.toList.isEmpty = false := by
  rw [ByteArray.toList_eq]
  obtain ⟨⟨l⟩⟩ := s
  cases l with
  | nil => exact absurd rfl h
  | cons a l => rfl
set_option maxRecDepth 100000 in
set_option maxHeartbeats 1000000 in
theorem within_any (x : OC) (w : World) (hx : HasO w x) :
    Calls Try.prog 60 #[.agg #[.int .i64 x.o.k, .slice x.a x.n x.c, .string x.o.s]] w fun e w' => e = .returned (.bool (fineO x.o)) ∧ Below w.heap.size w w' := by
  have hmf : ∀ (fn : Fn) (first cap : Array Value) (w : World), (Instr.makeFunc fn first cap).run Try.prog w = .ok (.func fn first cap) w := fun _ _ _ _ => rfl
  by_cases h1 : x.o.k < 2
  · have ef := Lib.hid (fine_low h1)
    clear hx
    go_enter Try.func60, Try.ntmps60
    go_wp2_with fail
    go_ret
    exact ⟨ret_bool ef.out.symm, new_alloc (new_refl w) _⟩
  · by_cases h2 : 255 < x.o.k
    · have ef := Lib.hid (fine_high h2)
      clear hx
      go_enter Try.func60, Try.ntmps60
      go_wp2_with fail
      go_ret
      exact ⟨ret_bool ef.out.symm, new_alloc (new_refl w) _⟩
    · have A1 := At.new w [.int .i64 x.o.k, .slice x.a x.n x.c, .string x.o.s] 76
      have hfew := hx.few
      by_cases h3 : szO x.o.k = 0
      · have ef := Lib.hid (fine_other h1 h2 h3)
        rw [hx.len] at ef
        have hk : knO x.o.k = false := kn_not.2 h3
        clear hx h3
        go_enter Try.func60, Try.ntmps60
        go_upto_region 4 with (first
          | (go_at_call 62; refine (shapeK x.o.k _ hk _).mono ?_; rintro e w1 ⟨rfl, B1⟩))
        have A2 := (A1.kept B1).alloc (.cells #[.int .i64 (szO x.o.k : Int), .int .i64 (leO x.o.k : Int), .int .i64 (moO x.o.k : Int)] 105)
        have L2 := new_alloc (new_then (new_alloc (new_refl w) _) B1) (.cells #[.int .i64 (szO x.o.k : Int), .int .i64 (leO x.o.k : Int), .int .i64 (moO x.o.k : Int)] 105)
        generalize w1.alloc (.cells #[.int .i64 (szO x.o.k : Int), .int .i64 (leO x.o.k : Int), .int .i64 (moO x.o.k : Int)] 105) = W at *
        have a1 := A2.cell 1 rfl
        clear A1 A2 B1
        go_wp2_with fail
        go_ret
        exact ⟨ret_bool (by rw [ef.out]; rfl), L2⟩
      · obtain ⟨m, hm⟩ : ∃ m, szO x.o.k = m := ⟨_, rfl⟩
        have hM := sz_known hm (by omega)
        have ef := Lib.hid (fine_known h1 h2 hm hM)
        rw [hx.len] at ef
        have hk : knO x.o.k = true := kn_is.2 h3
        have HX := Lib.hid hx
        clear hx
        go_enter Try.func60, Try.ntmps60
        go_upto_region 4 with (first
          | (go_at_call 62; refine (shapeK x.o.k _ hk _).mono ?_; rintro e w1 ⟨rfl, B1⟩))
        rw [hm] at *
        have A2 := (A1.kept B1).alloc (.cells #[.int .i64 (m : Int), .int .i64 (leO x.o.k : Int), .int .i64 (moO x.o.k : Int)] 105)
        have S2 := At.new w1 [.int .i64 (m : Int), .int .i64 (leO x.o.k : Int), .int .i64 (moO x.o.k : Int)] 105
        have L2 := new_alloc (new_then (new_alloc (new_refl w) _) B1) (.cells #[.int .i64 (m : Int), .int .i64 (leO x.o.k : Int), .int .i64 (moO x.o.k : Int)] 105)
        generalize w1.heap.size = p at *
        generalize w1.alloc (.cells #[.int .i64 (m : Int), .int .i64 (leO x.o.k : Int), .int .i64 (moO x.o.k : Int)] 105) = W at *
        have a1 := A2.cell 1 rfl
        have s0 := S2.cell 0 rfl
        have s1 := S2.cell 1 rfl
        have s2 := S2.cell 2 rfl
        have HM : Hid ((decide (leO x.o.k ≤ x.n) && decide (x.n ≤ moO x.o.k)) = mayO x.o.k x.n) := Lib.hid rfl
        clear A1 B1
        cases hy : mayO x.o.k x.n
        · go_wp2_with (first
            | (go_at_call 69; refine (allows_any m (leO x.o.k) (moO x.o.k) x.n _).mono ?_; rw [HM.out, hy]; rintro e w2 ⟨rfl, B2⟩))
          go_ret
          exact ⟨ret_bool (by rw [ef.out, hy]; rfl), new_then L2 B2⟩
        · cases hz : x.o.zs.any (grO m)
          · by_cases hs : x.o.s.size = 0
            · have eS := str_none hs
              go_wp2_with (first
                | (go_at_call 69; refine (allows_any m (leO x.o.k) (moO x.o.k) x.n _).mono ?_; rw [HM.out, hy]; rintro e w2 ⟨rfl, B2⟩; have A3 := A2.kept B2; have b1 := A3.cell 1 rfl; have b2 := A3.cell 2 rfl; have S3 := S2.kept B2)
                | (go_at_call 73; refine (greats_any p m x _ (HX.out.kept (new_then L2 B2)) hM (S3.cell 0 rfl)).mono ?_; rw [hz]; rintro e w3 ⟨rfl, rfl⟩))
              go_ret
              exact ⟨ret_bool (by rw [ef.out, hy, hz, hs]; rfl), new_then L2 B2⟩
            · have eS := str_some hs
              go_wp2_with (first
                | (go_at_call 69; refine (allows_any m (leO x.o.k) (moO x.o.k) x.n _).mono ?_; rw [HM.out, hy]; rintro e w2 ⟨rfl, B2⟩; have A3 := A2.kept B2; have b1 := A3.cell 1 rfl; have b2 := A3.cell 2 rfl; have S3 := S2.kept B2)
                | (go_at_call 73; refine (greats_any p m x _ (HX.out.kept (new_then L2 B2)) hM (S3.cell 0 rfl)).mono ?_; rw [hz]; rintro e w3 ⟨rfl, rfl⟩))
              go_ret
              exact ⟨ret_bool (by rw [ef.out, hy, hz, decide_eq_false hs]; rfl), new_then L2 B2⟩
          · go_wp2_with (first
              | (go_at_call 69; refine (allows_any m (leO x.o.k) (moO x.o.k) x.n _).mono ?_; rw [HM.out, hy]; rintro e w2 ⟨rfl, B2⟩; have A3 := A2.kept B2; have b1 := A3.cell 1 rfl; have b2 := A3.cell 2 rfl; have S3 := S2.kept B2)
              | (go_at_call 73; refine (greats_any p m x _ (HX.out.kept (new_then L2 B2)) hM (S3.cell 0 rfl)).mono ?_; rw [hz]; rintro e w3 ⟨rfl, rfl⟩))
            go_ret
            exact ⟨ret_bool (by rw [ef.out, hy, hz]; rfl), new_then L2 B2⟩

def MostI (W : World) (m gh : Nat) (vm vi : Value) (wr : World) : Prop := ∃ i : Nat, vi = .int .i64 (i : Int) ∧ m - i = gh ∧ i ≤ m ∧ vm = .int .u64 (256 ^ i) ∧ W = wr
theorem pow_few {i : Nat} (h : i ≤ 4) : (0 : Int) < 256 ^ i ∧ (256 : Int) ^ i ≤ 4294967296 := by
  match i, h with
  | 0, _ => decide
  | 1, _ => decide
  | 2, _ => decide
  | 3, _ => decide
  | 4, _ => decide
set_option maxRecDepth 100000 in
set_option maxHeartbeats 1000000 in
theorem refFine_raw (o : Opt) (a : Option Addr) (n c : Nat) (w : World) (hx : HasO w ⟨o, a, n, c⟩) :
    Calls Try.prog 42 #[.agg #[.int .i64 o.k, .slice a n c, .string o.s]] w fun e w' => e = .returned (.bool (fineO o)) ∧ Below w.heap.size w w' := by
  have L0 := new_alloc (new_refl w) (.cells #[.int .i64 o.k, .slice a n c, .string o.s] 76)
  by_cases h1 : o.k < 2
  · have ef := Lib.hid (fine_low h1)
    clear hx
    go_enter Try.func42, Try.ntmps42
    go_wp2_with fail
    go_ret
    exact ⟨ret_bool ef.out.symm, L0⟩
  · by_cases h2 : 255 < o.k
    · have ef := Lib.hid (fine_high h2)
      clear hx
      go_enter Try.func42, Try.ntmps42
      go_wp2_with fail
      go_ret
      exact ⟨ret_bool ef.out.symm, L0⟩
    · have hfew : n ≤ 100 := hx.few
      by_cases h3 : szO o.k = 0
      · have ef := Lib.hid (fine_other h1 h2 h3)
        rw [show o.zs.length = n from hx.len] at ef
        have CS : Hid (∀ w, Calls Try.prog 44 #[.int .i64 o.k] w fun e w' => e = .returned (.int .i64 0) ∧ w = w') := Lib.hid (fun w => by have := refSize_any o.k w; rw [h3] at this; exact this)
        clear hx
        go_enter Try.func42, Try.ntmps42
        go_wp2_with (first
          | (go_at_call 44; refine (CS.out _).mono ?_; rintro e w1 ⟨rfl, rfl⟩))
        go_ret
        exact ⟨ret_bool (by rw [ef.out]; rfl), L0⟩
      · obtain ⟨m, hm⟩ : ∃ m, szO o.k = m := ⟨_, rfl⟩
        have hM := sz_known hm (by omega)
        have ef := Lib.hid (fine_known h1 h2 hm hM)
        rw [show o.zs.length = n from hx.len] at ef
        have CS : Hid (∀ w, Calls Try.prog 44 #[.int .i64 o.k] w fun e w' => e = .returned (.int .i64 (m : Int)) ∧ w = w') := Lib.hid (fun w => by have := refSize_any o.k w; rw [hm] at this; exact this)
        have CM := Lib.hid (fun w => refMay_any o.k n w h3)
        have A1 := At.new w [.int .i64 o.k, .slice a n c, .string o.s] 76
        have HX := Lib.hid (hx.kept L0)
        have HLn : Hid (o.zs.length = n) := Lib.hid hx.len
        have m0 : ((m : Int) == 0) = false := by simp; omega
        have m4 : m ≤ 4 := by omega
        clear hx h3
        go_enter Try.func42, Try.ntmps42
        go_upto_region 7 with (first
          | (go_at_call 44; refine (CS.out _).mono ?_; rintro e w1 ⟨rfl, rfl⟩))
        generalize w.alloc (.cells #[.int .i64 o.k, .slice a n c, .string o.s] 76) = W at *
        go_wp2_with fail
        go_loopg [4, 5] m (fun gh vm vi wr => MostI W m gh vm vi wr)
        case atStart => exact ⟨0, rfl, rfl, by omega, rfl, rfl⟩
        case round =>
          obtain ⟨i, rfl, rfl, hi, rfl, rfl⟩ := hrel
          by_cases hlt : i < m
          · have k0 : (0 : Int) ≤ (i : Int) := by omega
            have k1 : (i : Int) < (m : Int) := by omega
            obtain ⟨p0, p1⟩ := pow_few (i := i) (by omega)
            have ep : Hid ((256 : Int) ^ i * 256 = 256 ^ (i + 1)) := Lib.hid (Int.pow_succ 256 i).symm
            generalize (256 : Int) ^ i = q at *
            go_wp2_with fail
            go_roundg (m - (i + 1))
            case measure => omega
            case rel => exact ⟨i + 1, by go_num, rfl, by omega, by rw [ep.out], rfl⟩
          · obtain rfl : i = m := by omega
            obtain ⟨p0, p1⟩ := pow_few (i := i) (by omega)
            have EP : Hid (∀ z, grO i z = !decide (z < 256 ^ i)) := Lib.hid (fun z => rfl)
            generalize (256 : Int) ^ i = q at *
            have a1 := A1.cell 1 rfl
            have a0 := A1.cell 0 rfl
            have a2 := A1.cell 2 rfl
            go_wp2_with fail
            go_loopg [6] n (fun gh vi wr => GrI W o.zs i n gh vi wr)
            case atStart => exact ⟨0, rfl, rfl, by omega, by simp, rfl⟩
            case round =>
              obtain ⟨j, rfl, rfl, hj, hf, rfl⟩ := hrel
              have HF := Lib.hid hf
              clear hf
              by_cases hlt2 : j < n
              · have k0 : (0 : Int) ≤ (j : Int) := by omega
                have k1 : (j : Int) < (n : Int) := by omega
                have HN := Lib.hid (gr_step (zs := o.zs) (W := i) (i := j) (by have := HLn.out; omega))
                obtain ⟨g, off, rfl, c0, x0, x1, _⟩ := HX.out.num (i := j) hlt2
                generalize bF o.zs j = z at *
                have e8 : IntKind.u64.wrap z = z := by rw [IntKind.wrap_u64]; omega
                by_cases hz : q ≤ z
                · have eg : Hid (o.zs.any (grO i) = true) := Lib.hid (gr_more (i := j + 1) (by rw [HN.out, HF.out, EP.out, decide_eq_false (by omega)]; rfl))
                  go_wp2_with fail
                  go_ret
                  exact ⟨ret_bool (by rw [ef.out, eg.out]; simp), L0⟩
                · have eg : Hid ((o.zs.take (j + 1)).any (grO i) = false) := Lib.hid (by rw [HN.out, HF.out, EP.out, decide_eq_true (by omega)]; rfl)
                  go_wp2_with fail
                  go_roundg (n - (j + 1))
                  case measure => omega
                  case rel => exact ⟨j + 1, by go_num, rfl, by omega, eg.out, rfl⟩
              · obtain rfl : j = n := by omega
                have e1 : o.zs.take j = o.zs := List.take_of_length_le (by have := HLn.out; omega)
                rw [e1] at HF
                clear e1
                by_cases hs : o.s.size = 0
                · have eS := str_none hs
                  go_wp2_with (first
                    | (go_at_call 56; refine (CM.out _).mono ?_; rintro e w2 ⟨rfl, rfl⟩))
                  go_ret
                  exact ⟨ret_bool (by rw [ef.out, HF.out, hs]; simp), L0⟩
                · have eS := str_some hs
                  go_wp2_with fail
                  go_ret
                  exact ⟨ret_bool (by rw [ef.out, decide_eq_false hs]; simp), L0⟩

theorem refFine_any (x : OC) (w : World) (hx : HasO w x) :
    Calls Try.prog 42 #[.agg #[.int .i64 x.o.k, .slice x.a x.n x.c, .string x.o.s]] w fun e w' => e = .returned (.bool (fineO x.o)) ∧ Below w.heap.size w w' := refFine_raw x.o x.a x.n x.c w hx
end Go.Proofs.Ytnkcnfkonifmhaa
