/- Package option: how many bytes an option has; whether a kind was there (again, and what it hands out). The document's All, Had. -/
import Derived.Test.YtnkcnfkonifmhaaZOptB
namespace Go.Proofs.Ytnkcnfkonifmhaa
open Go.RowKit
set_option linter.unusedVariables false

def AllI (w : World) (A B : Option Addr) (n : Nat) (xs ys : List OC) (gh : Nat) (vi : Value) (wr : World) : Prop :=
  ∃ k : Nat, vi = .int .i64 (k : Int) ∧ n - k = gh ∧ k ≤ n ∧ OptsAt wr A n xs ∧ OptsAt wr B n ys ∧ Below w.heap.size w wr
theorem map_nth {xs ys : List OC} {n k : Nat} (h : xs.map OC.o = ys.map OC.o) (hx : xs.length = n) (hy : ys.length = n) (hk : k < n) : (nthO xs k).o = (nthO ys k).o := by
  have h1 : (xs.map OC.o)[k]? = (ys.map OC.o)[k]? := by rw [h]
  rw [List.getElem?_map, List.getElem?_map, List.getElem?_eq_getElem (by omega), List.getElem?_eq_getElem (by omega)] at h1
  rw [nthO_eq (by omega), nthO_eq (by omega)]
  simpa using h1
set_option maxRecDepth 100000 in
set_option maxHeartbeats 1000000 in
theorem all_any (A B : Option Addr) (n c d : Nat) (xs ys : List OC) (w : World) (hx : OptsAt w A n xs) (hy : OptsAt w B n ys) (h : xs.map OC.o = ys.map OC.o) (hn : n ≤ 100000) :
    Calls Try.prog 34 #[.slice A n c, .slice B n d] w fun e w' => e = .returned (.bool true) ∧ Below w.heap.size w w' := by
  have HM := Lib.hid h
  have HX := Lib.hid hx
  have HY := Lib.hid hy
  clear hx hy h
  go_enter Try.func34, Try.ntmps34
  go_wp2_with fail
  go_loopg [5] n (fun gh vi wr => AllI w A B n xs ys gh vi wr)
  case atStart => exact ⟨0, rfl, rfl, by omega, HX.out, HY.out, new_refl w⟩
  case round =>
    obtain ⟨k, rfl, rfl, hk, hx, hy, hB⟩ := hrel
    clear HX HY
    by_cases hlt : k < n
    · have k0 : (0 : Int) ≤ (k : Int) := by omega
      have k1 : (k : Int) < (n : Int) := by omega
      obtain ⟨g, off, rfl, ⟨c0, c1, c2⟩, h0, g0⟩ := hx.at hlt
      obtain ⟨g', off', rfl, ⟨d0, d1, d2⟩, h1, g1⟩ := hy.at hlt
      have he := Lib.hid (map_nth HM.out hx.len hy.len hlt)
      have HX := Lib.hid hx
      have HY := Lib.hid hy
      have H0 := Lib.hid h0
      have H1 := Lib.hid h1
      clear hx hy h0 h1
      generalize nthO xs k = x at *
      generalize nthO ys k = y at *
      go_wp2_with fail
      go_region_held3 (fun w' => w'.cell? ⟨g, off + k * 3, none⟩ = some (.int .i64 x.o.k) ∧ w'.cell? ⟨g, off + k * 3 + 1, none⟩ = some (.slice x.a x.n x.c) ∧ w'.cell? ⟨g, off + k * 3 + 2, none⟩ = some (.string x.o.s) ∧ w'.cell? ⟨g', off' + k * 3, none⟩ = some (.int .i64 y.o.k) ∧ w'.cell? ⟨g', off' + k * 3 + 1, none⟩ = some (.slice y.a y.n y.c) ∧ w'.cell? ⟨g', off' + k * 3 + 2, none⟩ = some (.string y.o.s))
        (first | go_keep | exact six_kept B1 (by assumption))
        (first
          | (go_at_call 58; refine (same_any x y _ (H0.out.drew 1) (H1.out.drew 1) he.out).mono ?_; rintro e w1 ⟨rfl, B1⟩; replace B1 := new_undrew B1))
      all_goals
        clear c0 c1 c2 d0 d1 d2
        go_wp2_with fail
        go_roundg (n - (k + 1))
        case measure => omega
        case rel => exact ⟨k + 1, by go_num, rfl, by omega, HX.out.kept B1, HY.out.kept B1, new_then hB B1⟩
    · obtain rfl : k = n := by omega
      clear hx hy
      go_wp2_with fail
      go_ret
      exact ⟨rfl, hB⟩

theorem had_step (l : List Opt) (k : Int) (i : Nat) (h : i < l.length) : hadO (l.take (i + 1)) k = (hadO (l.take i) k || (knO k && (l[i].k == k))) := by
  rw [List.take_succ_eq_append_getElem h, hadO, hadO, List.any_append]
  cases knO k <;> simp
theorem had_more {l : List Opt} {k : Int} {i : Nat} (h : hadO (l.take i) k = true) : hadO l k = true := by
  simp only [hadO, Bool.and_eq_true, List.any_eq_true] at h ⊢
  obtain ⟨h0, x, hx, h1⟩ := h
  exact ⟨h0, x, List.mem_of_mem_take hx, h1⟩
theorem map_oc {xs : List OC} {i : Nat} (h : i < xs.length) : (xs.map OC.o)[i]'(by simpa using h) = (nthO xs i).o := by rw [nthO_eq h]; simp
theorem had_nth {xs : List OC} {k : Int} {i n : Nat} (hn : xs.length = n) (h : i < n) : hadO ((xs.map OC.o).take (i + 1)) k = (hadO ((xs.map OC.o).take i) k || (knO k && ((nthO xs i).o.k == k))) := by
  rw [had_step _ _ _ (by simp; omega), map_oc (by omega)]
def HadI (w : World) (xs : List OC) (k : Int) (n gh : Nat) (vi : Value) (wr : World) : Prop := ∃ i : Nat, vi = .int .i64 (i : Int) ∧ n - i = gh ∧ i ≤ n ∧ hadO ((xs.map OC.o).take i) k = false ∧ w = wr
set_option maxRecDepth 100000 in
theorem refHad_any (A : Option Addr) (n c : Nat) (xs : List OC) (k : Int) (w : World) (hx : OptsAt w A n xs) (hn : n ≤ 100000) :
    Calls Try.prog 43 #[.slice A n c, .int .i64 k] w fun e w' => e = .returned (.bool (hadO (xs.map OC.o) k)) ∧ w = w' := by
  have HX := Lib.hid hx
  have HS := Lib.hid (@kn_is k)
  have HT := Lib.hid (@kn_not k)
  obtain ⟨s, es⟩ : ∃ s : Int, (szO k : Int) = s := ⟨_, rfl⟩
  have s0 : 0 ≤ s := by omega
  have ES := Lib.hid es
  have CS : Hid (∀ w, Calls Try.prog 44 #[.int .i64 k] w fun e w' => e = .returned (.int .i64 s) ∧ w = w') := Lib.hid (fun w => by rw [← es]; exact refSize_any k w)
  clear hx es
  go_enter Try.func43, Try.ntmps43
  go_wp2_with fail
  go_loopg [5] n (fun gh vi wr => HadI w xs k n gh vi wr)
  case atStart => exact ⟨0, rfl, rfl, by omega, by simp [hadO], rfl⟩
  case round =>
    obtain ⟨i, rfl, rfl, hi, hf, rfl⟩ := hrel
    by_cases hlt : i < n
    · have k0 : (0 : Int) ≤ (i : Int) := by omega
      have k1 : (i : Int) < (n : Int) := by omega
      obtain ⟨g, off, rfl, ⟨c0, _, _⟩, _, _⟩ := HX.out.at hlt
      have HN := Lib.hid (had_nth (k := k) HX.out.len hlt)
      have HF := Lib.hid hf
      clear hf
      generalize nthO xs i = x at *
      by_cases hk : x.o.k = k
      · by_cases hs : s = 0
        · have ef : Hid (hadO ((xs.map OC.o).take (i + 1)) k = false) := Lib.hid (by rw [HN.out, HF.out, HT.out.2 (by have := ES.out; omega)]; rfl)
          subst hs
          go_wp2_with (first
            | (go_at_call 44; refine (CS.out _).mono ?_; rintro e w1 ⟨rfl, rfl⟩))
          go_roundg (n - (i + 1))
          case measure => omega
          case rel => exact ⟨i + 1, by go_num, rfl, by omega, ef.out, rfl⟩
        · have s1 : 0 < s := by omega
          have ef : Hid (hadO (xs.map OC.o) k = true) := Lib.hid (had_more (i := i + 1) (by rw [HN.out, HF.out, HS.out.2 (by have := ES.out; omega), hk]; simp))
          go_wp2_with (first
            | (go_at_call 44; refine (CS.out _).mono ?_; rintro e w1 ⟨rfl, rfl⟩))
          go_ret
          exact ⟨ret_bool ef.out.symm, rfl⟩
      · have ek : (x.o.k == k) = false := by simp [hk]
        have ef : Hid (hadO ((xs.map OC.o).take (i + 1)) k = false) := Lib.hid (by rw [HN.out, HF.out, ek]; simp)
        go_wp2_with fail
        go_roundg (n - (i + 1))
        case measure => omega
        case rel => exact ⟨i + 1, by go_num, rfl, by omega, ef.out, rfl⟩
    · obtain rfl : i = n := by omega
      have e1 : (xs.map OC.o).take i = xs.map OC.o := List.take_of_length_le (by have := HX.out.len; simp; omega)
      rw [e1] at hf
      have HF := Lib.hid hf
      clear hf e1
      go_wp2_with fail
      go_ret
      exact ⟨ret_bool HF.out.symm, rfl⟩

set_option maxRecDepth 100000 in
theorem length_any (x : OC) (w : World) (hx : HasO w x) :
    Calls Try.prog 61 #[.agg #[.int .i64 x.o.k, .slice x.a x.n x.c, .string x.o.s]] w fun e w' => e = .returned (.int .i64 (lenO x.o : Int)) ∧ Below w.heap.size w w' := by
  obtain ⟨p, ep⟩ : ∃ p : Int, (szO x.o.k : Int) * (x.n : Int) = p := ⟨_, rfl⟩
  have hs := sz_four x.o.k
  have h1 : szO x.o.k * x.n ≤ 4 * 100 := Nat.mul_le_mul hs hx.few
  have p1 : p ≤ 400 := by rw [← ep, ← Int.natCast_mul]; omega
  have p0 : 0 ≤ p := by rw [← ep, ← Int.natCast_mul]; omega
  have t0 := hx.txt
  have EN : Hid (2 + p + (x.o.s.size : Int) = (lenO x.o : Int)) := Lib.hid (by rw [lenO, hx.len, ← ep]; simp [Int.natCast_add, Int.natCast_mul])
  have A1 := At.new w [.int .i64 x.o.k, .slice x.a x.n x.c, .string x.o.s] 76
  clear hx h1
  go_enter Try.func61, Try.ntmps61
  go_upto_region 2 with (first
    | (go_at_call 62; refine (shapeOf_any x.o.k _).mono ?_; rintro e w1 ⟨rfl, B1⟩))
  have A2 := (A1.kept B1).alloc (.cells #[.int .i64 (szO x.o.k : Int), .int .i64 (leO x.o.k : Int), .int .i64 (moO x.o.k : Int)] 105)
  have S2 := At.new w1 [.int .i64 (szO x.o.k : Int), .int .i64 (leO x.o.k : Int), .int .i64 (moO x.o.k : Int)] 105
  have L2 := new_alloc (new_then (new_alloc (new_refl w) _) B1) (.cells #[.int .i64 (szO x.o.k : Int), .int .i64 (leO x.o.k : Int), .int .i64 (moO x.o.k : Int)] 105)
  generalize w1.alloc (.cells #[.int .i64 (szO x.o.k : Int), .int .i64 (leO x.o.k : Int), .int .i64 (moO x.o.k : Int)] 105) = W at *
  have a1 := A2.cell 1 rfl
  have a2 := A2.cell 2 rfl
  have s0 := S2.cell 0 rfl
  clear A1 A2 S2 B1
  go_wp2_with fail
  go_ret
  exact ⟨ret_int EN.out, L2⟩

/-- Kinds one behind the other. -/
theorem elI12 : IsElem .i64 111 3 8 := ⟨by kernel_rfl, by kernel_rfl, by decide⟩
abbrev OwnI12 (w : World) (base : Nat) (v : Value) (ks : List Int) : Prop := OwnK .i64 3 w base v ks
def IdxO (w : World) (k : Int) (ks : List Int) (n gh : Nat) (vi : Value) (wr : World) : Prop := ∃ i : Nat, vi = .int .i64 (i : Int) ∧ n - i = gh ∧ i ≤ n ∧ (ks.take i).any (fun x => x == k) = false ∧ w = wr
theorem any_step {ks : List Int} {k : Int} {i : Nat} (h : i < ks.length) : (ks.take (i + 1)).any (fun x => x == k) = ((ks.take i).any (fun x => x == k) || (bF ks i == k)) := by
  rw [List.take_succ_eq_append_getElem h, List.any_append, bF, List.getElem?_eq_getElem h]; simp
theorem any_more {ks : List Int} {k : Int} {i : Nat} (h : (ks.take i).any (fun x => x == k) = true) : ks.any (fun x => x == k) = true := by
  simp only [List.any_eq_true] at h ⊢
  obtain ⟨x, hx, h1⟩ := h
  exact ⟨x, List.mem_of_mem_take hx, h1⟩
/-- Where a number stands first: below 0, if nowhere. -/
def IndexTo (w : World) (k : Int) (ks : List Int) (e : Ending) (w' : World) : Prop := ∃ r : Int, e = .returned (.int .i64 r) ∧ decide (0 ≤ r) = ks.any (fun x => x == k) ∧ w = w'
theorem index12_any (A : Option Addr) (g n c : Nat) (ks : List Int) (k : Int) (w : World) (h : LsK .i64 w g A ks) (hl : ks.length = n) (hn : n ≤ 100000) :
    Calls Try.prog 74 #[.slice A n c, .int .i64 k] w (IndexTo w k ks) := by
  have HV := Lib.hid h
  have HL := Lib.hid hl
  clear h hl
  go_enter Try.func74, Try.ntmps74
  go_wp2_with fail
  go_loopg [8] n (fun gh vi wr => IdxO w k ks n gh vi wr)
  case atStart => exact ⟨0, rfl, rfl, by omega, by simp, rfl⟩
  case round =>
    obtain ⟨i, rfl, rfl, hi, hf, rfl⟩ := hrel
    by_cases hlt : i < n
    · have k0 : (0 : Int) ≤ (i : Int) := by omega
      have k1 : (i : Int) < (n : Int) := by omega
      have HN := Lib.hid (any_step (ks := ks) (k := k) (i := i) (by have := HL.out; omega))
      obtain ⟨off, rfl⟩ : ∃ off, A = some ⟨g, off, none⟩ := by
        rcases HV.out with h | ⟨off, h, _⟩
        · have := HL.out; rw [h] at this; simp at this; omega
        · exact ⟨off, h⟩
      have c0 := HV.out.at HL.out hlt
      have HF := Lib.hid hf
      clear hf
      generalize bF ks i = x at *
      by_cases hk : k = x
      · subst hk
        have ef : Hid (ks.any (fun x => x == k) = true) := Lib.hid (any_more (i := i + 1) (by rw [HN.out, HF.out]; simp))
        go_wp2_with fail
        go_ret
        exact ⟨i, rfl, by rw [ef.out]; simp, rfl⟩
      · have ek : (x == k) = false := by simp; omega
        have ek' : (k == x) = false := by simp; omega
        have ef : Hid ((ks.take (i + 1)).any (fun x => x == k) = false) := Lib.hid (by rw [HN.out, HF.out, ek]; rfl)
        clear hk ek
        go_wp2_with fail
        go_roundg (n - (i + 1))
        case measure => omega
        case rel => exact ⟨i + 1, by go_num, rfl, by omega, ef.out, rfl⟩
    · obtain rfl : i = n := by omega
      have e1 : ks.take i = ks := List.take_of_length_le (by have := HL.out; omega)
      rw [e1] at hf
      have HF := Lib.hid hf
      clear hf e1
      go_wp2_with fail
      go_ret
      exact ⟨-1, rfl, by rw [HF.out]; rfl, rfl⟩
theorem contains12_any (A : Option Addr) (g n c : Nat) (ks : List Int) (k : Int) (w : World) (h : LsK .i64 w g A ks) (hl : ks.length = n) (hn : n ≤ 100000) :
    Calls Try.prog 67 #[.slice A n c, .int .i64 k] w fun e w' => e = .returned (.bool (ks.any fun x => x == k)) ∧ w = w' := by
  have HI := Lib.hid (index12_any A g n c ks k w h hl hn)
  clear h hl
  go_enter Try.func67, Try.ntmps67
  go_wp2_with (first
    | (go_at_call 74; refine HI.out.mono ?_; rintro e w1 ⟨r, rfl, hr, rfl⟩; have HR := Lib.hid hr; clear hr))
  go_ret
  exact ⟨ret_bool HR.out, rfl⟩
end Go.Proofs.Ytnkcnfkonifmhaa
