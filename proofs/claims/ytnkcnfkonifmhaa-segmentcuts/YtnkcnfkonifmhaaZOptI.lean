/- Package option: Print. -/
import Derived.Test.YtnkcnfkonifmhaaZOptH
namespace Go.Proofs.Ytnkcnfkonifmhaa
open Go.RowKit
set_option linter.unusedVariables false

/-- What is printed. -/
def prO (os : List Opt) : List Int := if chkO [] os 0 = 0 then padO (allO os) else []
theorem allO_cons (o : Opt) (os : List Opt) : allO (o :: os) = bytO o ++ allO os := rfl
theorem chk_ok : ∀ (os pre : List Opt) (many : Nat), chkO pre os many = 0 → (∀ o ∈ os, fineO o = true) ∧ many + (allO os).length ≤ 40
  | [], pre, many, h => by
    rw [chkO] at h
    refine ⟨fun o ho => (by cases ho), ?_⟩
    split at h
    · cases h
    · simp [allO]; omega
  | o :: os, pre, many, h => by
    rw [chkO] at h
    split at h
    · split at h
      · cases h
      · obtain ⟨h1, h2⟩ := chk_ok os _ _ h
        refine ⟨fun o' ho => ?_, ?_⟩
        · rcases List.mem_cons.1 ho with rfl | ho
          · assumption
          · exact h1 o' ho
        · rw [allO_cons, List.length_append, bytO_len]; omega
    · cases h
theorem fine_kind {o : Opt} (h : fineO o = true) : 2 ≤ o.k ∧ o.k ≤ 255 := by
  simp only [fineO, Bool.and_eq_true, decide_eq_true_eq] at h
  exact h.1
theorem all_len12 {os : List Opt} {i : Nat} (h : i < os.length) : lenO os[i] ≤ (allO os).length := by
  have e : os = os.take i ++ os[i] :: os.drop (i + 1) := by rw [← List.drop_eq_getElem_cons h, List.take_append_drop]
  have : (allO os).length = (allO (os.take i)).length + (lenO os[i] + (allO (os.drop (i + 1))).length) := by
    conv => lhs; rw [e]
    rw [allO, List.flatMap_append, List.length_append, List.flatMap_cons, List.length_append, bytO_len]; rfl
  omega
theorem all_part (os : List Opt) (i : Nat) : (allO (os.take i)).length ≤ (allO os).length := by
  have e : allO os = allO (os.take i) ++ allO (os.drop i) := by rw [allO, allO, allO, ← List.flatMap_append, List.take_append_drop]
  rw [e, List.length_append]; omega
theorem all_nth {xs : List OC} {i n : Nat} (hn : xs.length = n) (h : i < n) : allO ((xs.map OC.o).take (i + 1)) = allO ((xs.map OC.o).take i) ++ bytO (nthO xs i).o := by
  rw [allO_take (by simp; omega), map_oc (by omega)]
/-- A printed answer: the bytes, and what is wrong. -/
def PrnTo (w : World) (os : List Opt) (e : Ending) (w' : World) : Prop :=
  ∃ A n c, e = .returned (.tuple #[.slice A n c, .int .i64 (chkO [] os 0)]) ∧ OwnB w' w.heap.size (.slice A n c) (prO os) ∧ Below w.heap.size w w'
theorem own_form12 {w : World} {base : Nat} {v : Value} {zs : List Int} (h : OwnB w base v zs) : ∃ A n c, v = .slice A n c ∧ zs.length = n := by
  rcases h.form with ⟨rfl, rfl⟩ | ⟨g, c, rfl⟩
  · exact ⟨_, _, _, rfl, rfl⟩
  · exact ⟨_, _, _, rfl, rfl⟩
def PrnI (w : World) (os : List Opt) (n gh : Nat) (vo vi : Value) (wr : World) : Prop :=
  ∃ i : Nat, vi = .int .i64 (i : Int) ∧ n - i = gh ∧ i ≤ n ∧ OwnB wr w.heap.size vo (allO (os.take i)) ∧ Below w.heap.size w wr
def PadI (w : World) (bs : List Int) (gh : Nat) (vo : Value) (wr : World) : Prop :=
  ∃ m : Nat, (4 - bs.length % 4) % 4 - m = gh ∧ m ≤ (4 - bs.length % 4) % 4 ∧ OwnB wr w.heap.size vo (bs ++ List.replicate m 0) ∧ Below w.heap.size w wr
theorem pad_more (bs : List Int) (m : Nat) : bs ++ List.replicate (m + 1) 0 = bs ++ List.replicate m 0 ++ [0] := by rw [List.replicate_succ', List.append_assoc]
set_option maxRecDepth 100000 in
set_option maxHeartbeats 2000000 in
theorem print_any (A : Option Addr) (n c : Nat) (xs : List OC) (w : World) (hx : OptsAt w A n xs) (hn : n ≤ 100) :
    Calls Try.prog 19 #[.slice A n c] w (PrnTo w (xs.map OC.o)) := by
  have HX := Lib.hid hx
  obtain ⟨os, hos⟩ : ∃ os, xs.map OC.o = os := ⟨_, rfl⟩
  obtain ⟨T, hT⟩ : ∃ T, chkO [] os 0 = T := ⟨_, rfl⟩
  have CK := Lib.hid (check_any A n c xs w hx hn)
  rw [hos, hT] at CK
  have HA : Hid (∀ i, i < n → allO (os.take (i + 1)) = allO (os.take i) ++ bytO (nthO xs i).o) := Lib.hid (fun i hi => by rw [← hos]; exact all_nth hx.len hi)
  have HG : Hid (∀ i, i < n → ∃ h : i < os.length, os[i] = (nthO xs i).o) := Lib.hid (fun i hi => by subst hos; exact ⟨by simpa [hx.len] using hi, map_oc (by rw [hx.len]; exact hi)⟩)
  have HL : Hid (os.length = n) := Lib.hid (by rw [← hos]; simpa using hx.len)
  rw [hos]
  have HT := Lib.hid hT
  clear hx hT hos
  by_cases h0 : T = 0
  · subst h0
    have HP : Hid (prO os = padO (allO os)) := Lib.hid (by rw [prO, if_pos HT.out])
    obtain ⟨hfine, hmany⟩ := chk_ok os [] 0 HT.out
    have HF := Lib.hid hfine
    have HMn := Lib.hid hmany
    clear hfine hmany
    go_enter Try.func19, Try.ntmps19
    go_wp2_with (first
      | (go_at_call 36; refine CK.out.mono ?_; rintro e w1 ⟨rfl, B1⟩))
    go_loopg [5, 15] n (fun gh vo vi wr => PrnI w os n gh vo vi wr)
    case atStart => exact ⟨0, rfl, rfl, by omega, by simpa [allO] using OwnK.nil _ _ _ _, B1⟩
    case round =>
      clear B1 CK
      obtain ⟨i, rfl, rfl, hi, hO, hB⟩ := hrel
      have HO := Lib.hid hO
      clear hO
      by_cases hlt : i < n
      · have k0 : (0 : Int) ≤ (i : Int) := by omega
        have k1 : (i : Int) < (n : Int) := by omega
        obtain ⟨g, off, rfl, T0, h0, g0⟩ := HX.out.at hlt
        obtain ⟨c0, c1, c2⟩ := T0.kept hB
        have HS := Lib.hid (HA.out i hlt)
        obtain ⟨hio, ho⟩ := HG.out i hlt
        have hk := fine_kind (HF.out os[i] (List.getElem_mem _))
        have hl := all_len12 hio
        have hl2 := all_part os i
        have hmm := HMn.out
        rw [ho] at hk hl
        have hl3 : lenO (nthO xs i).o ≤ 255 := by omega
        have hz : (allO (os.take i)).length ≤ 10000 := by omega
        have H0 := Lib.hid h0
        have hzz := hB.size
        clear h0 T0 hio ho hl hl2 hmm
        generalize nthO xs i = x at *
        have L1 := new_alloc hB (.cells #[.int .i64 x.o.k, .slice x.a x.n x.c, .string x.o.s] 76)
        have HZ := Lib.hid hz
        have HKK : Hid (0 ≤ x.o.k ∧ x.o.k ≤ 255) := Lib.hid ⟨by omega, by omega⟩
        clear hz hk
        go_wp2_with (first
          | (go_at_call 37; refine (put12_any w.heap.size _ _ x.o x.a x.n x.c _ (HO.out.alloc _) L1.size (fun w' B => H0.out.kept (L1.trans B)) HKK.out hl3 HZ.out).mono ?_; rintro e w2 ⟨v2, rfl, O2, B2⟩))
        go_roundg (n - (i + 1))
        case measure => omega
        case rel => exact ⟨i + 1, by go_num, rfl, by omega, by rw [HS.out]; exact O2, L1.trans B2⟩
      · obtain rfl : i = n := by omega
        have e1 : os.take i = os := List.take_of_length_le (by have := HL.out; omega)
        rw [e1] at HO
        clear e1
        go_wp2_with fail
        go_loopg [5] ((4 - (allO os).length % 4) % 4) (fun gh vo wr => PadI w (allO os) gh vo wr)
        case atStart => exact ⟨0, rfl, Nat.zero_le _, by simpa using HO.out, hB⟩
        case round =>
          clear HO hB
          obtain ⟨m, rfl, hm, hO, hB⟩ := hrel
          obtain ⟨A5, n5, c5, rfl, hn5⟩ := own_form12 hO
          have hmm := HMn.out
          rw [List.length_append, List.length_replicate] at hn5
          have HO := Lib.hid hO
          have hzz := hB.size
          clear hO
          obtain ⟨n6, hn6⟩ : ∃ n6, (allO os ++ List.replicate m 0).length + 1 = n6 := ⟨_, rfl⟩
          have HN6 := Lib.hid hn6
          have hn6b : n6 ≤ 1000000000 := by rw [List.length_append, List.length_replicate] at hn6; omega
          clear hn6
          by_cases hlt : m < (4 - (allO os).length % 4) % 4
          · have em : ¬ ((n5 : Int) % 4 = 0) := by omega
            have HH := Lib.hid hn5
            clear hn5 hmm
            go_wp2_with (first
              | (at_builtin; refine wp_pushK elB (by rfl) _ _ (by rfl) w.heap.size _ _ 0 _ 1 (by rfl) (by rfl) ((At.new wr [.int .u8 0] _).cell 0 rfl) (HO.out.alloc _) n6 HN6.out hn6b (alloc_le hzz _) _ rfl ?_; intro g5 c5 w5 O5 G5 hat5 hlt5))
            go_roundg ((4 - (allO os).length % 4) % 4 - (m + 1))
            case measure => omega
            case rel => exact ⟨m + 1, rfl, hlt, by rw [pad_more]; exact O5, (new_alloc hB _).trans (below_push (HO.out.alloc _) G5 (alloc_le hzz _))⟩
          · have em : (n5 : Int) % 4 = 0 := by omega
            have ep : Hid (allO os ++ List.replicate m 0 = prO os) := Lib.hid (by rw [HP.out, padO]; congr 2; omega)
            clear hn5 hmm
            go_wp2_with fail
            go_ret2
            exact ⟨A5, n5, c5, by rw [HT.out]; rfl, by rw [← ep.out]; exact HO.out, hB⟩
  · have e0 : (T == 0) = false := by simp [h0]
    have HP : Hid (prO os = []) := Lib.hid (by rw [prO, if_neg (by rw [HT.out]; exact h0)])
    clear h0
    go_enter Try.func19, Try.ntmps19
    go_wp2_with (first
      | (go_at_call 36; refine CK.out.mono ?_; rintro e w1 ⟨rfl, B1⟩))
    go_ret2
    exact ⟨none, 0, 0, by rw [HT.out]; rfl, by rw [HP.out]; exact OwnK.nil _ _ _ _, B1⟩
end Go.Proofs.Ytnkcnfkonifmhaa
