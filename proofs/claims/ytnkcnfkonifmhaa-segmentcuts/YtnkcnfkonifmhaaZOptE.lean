/- Package option: are all bytes 0 (slices.ContainsFunc); may an option be (within). The document's fine. -/
import Derived.Test.YtnkcnfkonifmhaaZOptD
namespace Go.Proofs.Ytnkcnfkonifmhaa
open Go.RowKit
set_option linter.unusedVariables false

theorem ne0_any (x : Int) (w : World) :
    Calls Try.prog 52 #[.int .u8 x] w fun e w' => e = .returned (.bool (!(x == 0))) ∧ w = w' := by
  go_enter Try.func52, Try.ntmps52
  go_wp2_with fail
  go_ret
  exact ⟨by simp [bne], rfl⟩
def ZerI (w : World) (bs : List Int) (n gh : Nat) (vi : Value) (wr : World) : Prop := ∃ i : Nat, vi = .int .i64 (i : Int) ∧ n - i = gh ∧ i ≤ n ∧ (bs.take i).all (fun x => x == 0) = true ∧ w = wr
theorem all_step {bs : List Int} {i : Nat} (h : i < bs.length) : (bs.take (i + 1)).all (fun x => x == 0) = ((bs.take i).all (fun x => x == 0) && (bF bs i == 0)) := by
  rw [List.take_succ_eq_append_getElem h, List.all_append, bF, List.getElem?_eq_getElem h]; simp
theorem all_less {bs : List Int} {i : Nat} (h : (bs.take i).all (fun x => x == 0) = false) : bs.all (fun x => x == 0) = false := by
  simp only [List.all_eq_false] at h ⊢
  obtain ⟨x, hx, h1⟩ := h
  exact ⟨x, List.mem_of_mem_take hx, h1⟩
def ZeroTo (w : World) (bs : List Int) (e : Ending) (w' : World) : Prop := ∃ r : Int, e = .returned (.int .i64 r) ∧ decide (0 ≤ r) = !(bs.all fun x => x == 0) ∧ w = w'
theorem indexZ_any (g off n c : Nat) (bs : List Int) (w : World) (h : LsK .u8 w g (some ⟨g, off, none⟩) bs) (hl : bs.length = n) (hn : n ≤ 100000) :
    Calls Try.prog 68 #[.slice (some ⟨g, off, none⟩) n c, .func (.func 52) #[] #[]] w (ZeroTo w bs) := by
  have HV := Lib.hid h
  have HL := Lib.hid hl
  clear h hl
  go_enter Try.func68, Try.ntmps68
  go_wp2_with fail
  go_loopg [8] n (fun gh vi wr => ZerI w bs n gh vi wr)
  case atStart => exact ⟨0, rfl, rfl, by omega, by simp, rfl⟩
  case round =>
    obtain ⟨i, rfl, rfl, hi, hf, rfl⟩ := hrel
    by_cases hlt : i < n
    · have k0 : (0 : Int) ≤ (i : Int) := by omega
      have k1 : (i : Int) < (n : Int) := by omega
      have HN := Lib.hid (all_step (bs := bs) (i := i) (by have := HL.out; omega))
      have c0 := HV.out.at HL.out hlt
      have HF := Lib.hid hf
      clear hf
      generalize bF bs i = x at *
      cases hk : (x == 0)
      · have ef : Hid (bs.all (fun x => x == 0) = false) := Lib.hid (all_less (i := i + 1) (by rw [HN.out, HF.out, hk]; rfl))
        go_wp2_with (first
          | (go_at_call 52; refine (ne0_any x _).mono ?_; rw [hk]; rintro e w1 ⟨rfl, rfl⟩))
        go_ret
        exact ⟨i, rfl, by rw [ef.out]; simp, rfl⟩
      · have ef : Hid ((bs.take (i + 1)).all (fun x => x == 0) = true) := Lib.hid (by rw [HN.out, HF.out, hk]; rfl)
        go_wp2_with (first
          | (go_at_call 52; refine (ne0_any x _).mono ?_; rw [hk]; rintro e w1 ⟨rfl, rfl⟩))
        go_roundg (n - (i + 1))
        case measure => omega
        case rel => exact ⟨i + 1, by go_num, rfl, by omega, ef.out, rfl⟩
    · obtain rfl : i = n := by omega
      have e1 : bs.take i = bs := List.take_of_length_le (by have := HL.out; omega)
      rw [e1] at hf
      have HF := Lib.hid hf
      clear hf e1
      go_wp2_with fail
      go_ret
      exact ⟨-1, rfl, by rw [HF.out]; rfl, rfl⟩
theorem zeros_any (g off n c : Nat) (bs : List Int) (w : World) (h : LsK .u8 w g (some ⟨g, off, none⟩) bs) (hl : bs.length = n) (hn : n ≤ 100000) :
    Calls Try.prog 51 #[.slice (some ⟨g, off, none⟩) n c, .func (.func 52) #[] #[]] w fun e w' => e = .returned (.bool (!(bs.all fun x => x == 0))) ∧ w = w' := by
  have HI := Lib.hid (indexZ_any g off n c bs w h hl hn)
  clear h hl
  go_enter Try.func51, Try.ntmps51
  go_wp2_with (first
    | (go_at_call 68; refine HI.out.mono ?_; rintro e w1 ⟨r, rfl, hr, rfl⟩; have HR := Lib.hid hr; clear hr))
  go_ret
  exact ⟨ret_bool HR.out, rfl⟩

/-- Is a number too great for so many bytes? -/
def grO (W : Nat) (z : Int) : Bool := !decide (z < 256 ^ W)
abbrev fGr (p : Nat) : Value := .func (.func 72) #[] #[.pointer (some ⟨p, 0, none⟩)]
theorem great_any (p W : Nat) (z : Int) (w : World) (hW : W = 2 ∨ W = 3 ∨ W = 4) (h0 : 0 ≤ z) (h1 : z ≤ 4294967295) (hc : w.cell? ⟨p, 0, none⟩ = some (.int .i64 (W : Int))) :
    Calls Try.prog 72 #[.int .u32 z, .pointer (some ⟨p, 0, none⟩)] w fun e w' => e = .returned (.bool (grO W z)) ∧ w = w' := by
  rcases hW with rfl | rfl | rfl
  · have c0 : w.cell? ⟨p, 0, none⟩ = some (.int .i64 2) := hc
    have e1 : Hid (grO 2 z = !(z / 65536 == 0)) := Lib.hid (by
      rw [grO]; congr 1
      by_cases a : z / 65536 = 0
      · rw [decide_eq_true (by omega)]; simp [a]
      · rw [decide_eq_false (by omega)]; simp [a])
    clear hc
    go_enter Try.func72, Try.ntmps72
    go_wp2_with fail
    go_ret
    exact ⟨ret_bool (by rw [e1.out]; simp [bne]), rfl⟩
  · have c0 : w.cell? ⟨p, 0, none⟩ = some (.int .i64 3) := hc
    have e1 : Hid (grO 3 z = !(z / 16777216 == 0)) := Lib.hid (by
      rw [grO]; congr 1
      by_cases a : z / 16777216 = 0
      · rw [decide_eq_true (by omega)]; simp [a]
      · rw [decide_eq_false (by omega)]; simp [a])
    clear hc
    go_enter Try.func72, Try.ntmps72
    go_wp2_with fail
    go_ret
    exact ⟨ret_bool (by rw [e1.out]; simp [bne]), rfl⟩
  · have c0 : w.cell? ⟨p, 0, none⟩ = some (.int .i64 4) := hc
    have e1 : Hid (grO 4 z = false) := Lib.hid (by rw [grO, decide_eq_true (by omega)]; rfl)
    have e2 : z / 4294967296 = 0 := by omega
    clear hc
    go_enter Try.func72, Try.ntmps72
    go_wp2_with fail
    go_ret
    exact ⟨ret_bool (by rw [e1.out]), rfl⟩
def GrI (w : World) (zs : List Int) (W n gh : Nat) (vi : Value) (wr : World) : Prop := ∃ i : Nat, vi = .int .i64 (i : Int) ∧ n - i = gh ∧ i ≤ n ∧ (zs.take i).any (grO W) = false ∧ w = wr
theorem gr_step {zs : List Int} {W i : Nat} (h : i < zs.length) : (zs.take (i + 1)).any (grO W) = ((zs.take i).any (grO W) || grO W (bF zs i)) := by
  rw [List.take_succ_eq_append_getElem h, List.any_append, bF, List.getElem?_eq_getElem h]; simp
theorem gr_more {zs : List Int} {W i : Nat} (h : (zs.take i).any (grO W) = true) : zs.any (grO W) = true := by
  simp only [List.any_eq_true] at h ⊢
  obtain ⟨x, hx, h1⟩ := h
  exact ⟨x, List.mem_of_mem_take hx, h1⟩
def GreatTo (w : World) (W : Nat) (zs : List Int) (e : Ending) (w' : World) : Prop := ∃ r : Int, e = .returned (.int .i64 r) ∧ decide (0 ≤ r) = zs.any (grO W) ∧ w = w'
theorem indexG_any (p W : Nat) (x : OC) (w : World) (hx : HasO w x) (hW : W = 2 ∨ W = 3 ∨ W = 4) (hc : w.cell? ⟨p, 0, none⟩ = some (.int .i64 (W : Int))) :
    Calls Try.prog 76 #[.slice x.a x.n x.c, fGr p] w (GreatTo w W x.o.zs) := by
  obtain ⟨o, a, n, c⟩ := x
  have HX := Lib.hid hx
  have HC := Lib.hid hc
  have hn : n ≤ 100 := hx.few
  clear hx hc
  go_enter Try.func76, Try.ntmps76
  go_wp2_with fail
  go_loopg [8] n (fun gh vi wr => GrI w o.zs W n gh vi wr)
  case atStart => exact ⟨0, rfl, rfl, by omega, by simp, rfl⟩
  case round =>
    obtain ⟨i, rfl, rfl, hi, hf, rfl⟩ := hrel
    have hl : o.zs.length = n := HX.out.len
    by_cases hlt : i < n
    · have k0 : (0 : Int) ≤ (i : Int) := by omega
      have k1 : (i : Int) < (n : Int) := by omega
      have HN := Lib.hid (gr_step (zs := o.zs) (W := W) (i := i) (by omega))
      obtain ⟨g, off, rfl, c0, x0, x1, _⟩ := HX.out.num (i := i) hlt
      have HF := Lib.hid hf
      clear hf hl
      generalize bF o.zs i = z at *
      cases hk : grO W z
      · have ef : Hid ((o.zs.take (i + 1)).any (grO W) = false) := Lib.hid (by rw [HN.out, HF.out, hk]; rfl)
        go_wp2_with (first
          | (go_at_call 72; refine (great_any p W z _ hW x0 x1 HC.out).mono ?_; rw [hk]; rintro e w1 ⟨rfl, rfl⟩))
        go_roundg (n - (i + 1))
        case measure => omega
        case rel => exact ⟨i + 1, by go_num, rfl, by omega, ef.out, rfl⟩
      · have ef : Hid (o.zs.any (grO W) = true) := Lib.hid (gr_more (i := i + 1) (by rw [HN.out, HF.out, hk]; rfl))
        go_wp2_with (first
          | (go_at_call 72; refine (great_any p W z _ hW x0 x1 HC.out).mono ?_; rw [hk]; rintro e w1 ⟨rfl, rfl⟩))
        go_ret
        exact ⟨i, rfl, by rw [ef.out]; simp, rfl⟩
    · obtain rfl : i = n := by omega
      have e1 : o.zs.take i = o.zs := List.take_of_length_le (by omega)
      rw [e1] at hf
      have HF := Lib.hid hf
      clear hf e1 hl
      go_wp2_with fail
      go_ret
      exact ⟨-1, rfl, by rw [HF.out]; rfl, rfl⟩
theorem greats_any (p W : Nat) (x : OC) (w : World) (hx : HasO w x) (hW : W = 2 ∨ W = 3 ∨ W = 4) (hc : w.cell? ⟨p, 0, none⟩ = some (.int .i64 (W : Int))) :
    Calls Try.prog 73 #[.slice x.a x.n x.c, fGr p] w fun e w' => e = .returned (.bool (x.o.zs.any (grO W))) ∧ w = w' := by
  have HI := Lib.hid (indexG_any p W x w hx hW hc)
  clear hx hc
  go_enter Try.func73, Try.ntmps73
  go_wp2_with (first
    | (go_at_call 76; refine HI.out.mono ?_; rintro e w1 ⟨r, rfl, hr, rfl⟩; have HR := Lib.hid hr; clear hr))
  go_ret
  exact ⟨ret_bool HR.out, rfl⟩
end Go.Proofs.Ytnkcnfkonifmhaa
