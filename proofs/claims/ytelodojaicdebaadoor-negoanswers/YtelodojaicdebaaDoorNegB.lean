/- Package nego and the document's own answers of layer 14: what answers a question, and how an answer is taken; the chapter's example; and the laid table. -/
import Derived.Test.YtelodojaicdebaaDoorNegA
import Derived.LaidMore
import Derived.Stop.Joined
namespace Go.Proofs.YtelodojaicdebaaDoor
open Go.ChangeShapes Go.WideShapes Go.ChangeAt Go.RowKit Go.WideMaps Go.WideElems

theorem rep_cases (q n : Int) : (q = 7 ∧ 2 ≤ n) ∨ (¬ (q = 7 ∧ 2 ≤ n) ∧ (q = 7 ∨ q = 3) ∧ 1 ≤ n) ∨ (¬ (q = 7 ∧ 2 ≤ n) ∧ ¬ ((q = 7 ∨ q = 3) ∧ 1 ≤ n)) := by omega
theorem refReply_any (q c n : Int) (w : World) : Calls Tryd.prog 15 #[.int .u8 q, .int .i64 c, .int .i64 n] w fun e w' => e = .returned (.tuple #[.int .u8 (repB q c n), .int .i64 (repM q n)]) ∧ w = w' := by
  have hk : (shkC c = 0 ∧ shkC (knwC c) = 2) ∨ (¬ shkC c = 0 ∧ shkC (knwC c) = shkC c) := by
    rcases code_cases c with (rfl | rfl | rfl | rfl) | hc
    · exact .inr (by decide)
    · exact .inr (by decide)
    · exact .inr (by decide)
    · exact .inr (by decide)
    · left
      have h := hc
      simp [isC] at h
      refine ⟨?_, by simp [knwC, hc]; decide⟩
      unfold shkC
      rw [if_neg (by omega), if_neg (by omega), if_neg (by omega), if_neg (by omega)]
  have HB : Hid (repB q c n = if q = 7 ∧ 2 ≤ n then shkC (knwC c) else if (q = 7 ∨ q = 3) ∧ 1 ≤ n then 1 else 0) := Lib.hid rfl
  have HM : Hid (repM q n = if q = 7 ∧ 2 ≤ n then 2 else if (q = 7 ∨ q = 3) ∧ 1 ≤ n then 1 else 0) := Lib.hid rfl
  have hn : n ≤ 0 ∨ n = 1 ∨ 2 ≤ n := by omega
  have hq : q = 7 ∨ (¬ q = 7 ∧ q = 3) ∨ (¬ q = 7 ∧ ¬ q = 3) := by omega
  rcases hq with rfl | ⟨h7, rfl⟩ | ⟨h7, h3⟩
  all_goals
    rcases hn with hn | rfl | hn
    all_goals
      rcases hk with ⟨hs, hk⟩ | ⟨hs, hk⟩
      all_goals
        go_enter Tryd.func15, Tryd.ntmps15
        go_wp2_with (first
          | (go_at_call 9; refine (refShake_any _ _).mono ?_; rintro e w' ⟨rfl, rfl⟩))
        all_goals go_ret2
        all_goals exact ⟨ret_bi (by rw [HB.out]; first | omega | (simp_all <;> omega)) (by rw [HM.out]; first | omega | (simp_all <;> omega)), rfl⟩

/-- The mode by what was answered, and the code that was told. -/
def setM (n a : Int) : Int := if 2 ≤ n ∧ isShn a = true then 2 else if 1 ≤ n ∧ (a = 1 ∨ a = 5) then 1 else 0
def setC (n a : Int) : Int := if 2 ≤ n ∧ isShn a = true then shnC a else 0
theorem ret_ii {a a' b b' : Int} (h : a = a') (h' : b = b') : Ending.returned (.tuple #[.int .i64 a, .int .i64 b]) = .returned (.tuple #[.int .i64 a', .int .i64 b']) := by rw [h, h']
theorem settle_any (n a : Int) (w : World) (h : ShkAt w) : Calls Tryd.prog 16 #[.int .i64 n, .int .u8 a] w fun e w' => e = .returned (.tuple #[.int .i64 (setM n a), .int .i64 (setC n a)]) ∧ w = w' := by
  have HS := Lib.hid h
  clear h
  have HM : Hid (setM n a = if 2 ≤ n ∧ isShn a = true then 2 else if 1 ≤ n ∧ (a = 1 ∨ a = 5) then 1 else 0) := Lib.hid rfl
  have HC : Hid (setC n a = if 2 ≤ n ∧ isShn a = true then shnC a else 0) := Lib.hid rfl
  have hs : isShn a = true ∨ isShn a = false := by cases isShn a <;> simp
  have ha : (a = 1 ∨ a = 5) ∨ (¬ a = 1 ∧ ¬ a = 5) := by omega
  rcases modN_is n with ⟨h, e⟩ | ⟨h, e⟩ | ⟨h, e⟩
  all_goals
    have HN := Lib.hid h
    clear h
    rcases hs with hs | hs
    all_goals
      rcases ha with (h1 | h1) | ⟨h1, h5⟩
      all_goals
        go_enter Tryd.func16, Tryd.ntmps16
        go_wp2_with (first
          | (go_at_call 19; refine (mode_any _ _).mono ?_; rintro e w' ⟨rfl, rfl⟩)
          | (go_at_call 6; refine (shaken_any _ _ HS.out).mono ?_; rintro e w' ⟨rfl, rfl⟩))
        all_goals go_ret2
        all_goals exact ⟨ret_ii (by have := HN.out; rw [HM.out]; simp_all <;> omega) (by have := HN.out; rw [HC.out]; simp_all <;> omega), rfl⟩

theorem refSettle_any (n a : Int) (w : World) : Calls Tryd.prog 17 #[.int .i64 n, .int .u8 a] w fun e w' => e = .returned (.tuple #[.int .i64 (setM n a), .int .i64 (setC n a)]) ∧ w = w' := by
  have hs : isShn a = true ∨ isShn a = false := by cases isShn a <;> simp
  have ha : (a = 1 ∨ a = 5) ∨ (¬ a = 1 ∧ ¬ a = 5) := by omega
  have hn : n ≤ 0 ∨ n = 1 ∨ 2 ≤ n := by omega
  rcases hn with hn | hn | hn
  all_goals
    have HN := Lib.hid hn
    rcases hs with hs | hs
    all_goals
      rcases ha with (h1 | h1) | ⟨h1, h5⟩
      all_goals
        go_enter Tryd.func17, Tryd.ntmps17
        go_wp2_with (first
          | (go_at_call 7; refine (refShaken_any _ _).mono ?_; rintro e w' ⟨rfl, rfl⟩))
        all_goals go_ret2
        all_goals exact ⟨ret_ii (by have k := HN.out; unfold setM; first | omega | (simp_all <;> omega)) (by have k := HN.out; unfold setC; first | omega | (simp_all <;> omega)), rfl⟩

theorem works14_any (w : World) (h : ShkAt w) : Calls Tryd.prog 13 #[] w fun e w' => e = .returned (.bool true) ∧ w = w' := by
  have e1 : askN 2 = 7 := by decide
  have e2 : repB 7 3 2 = 6 := by decide
  have e3 : repM 7 2 = 2 := by decide
  have e4 : setM 2 6 = 2 := by decide
  have e5 : setC 2 6 = 3 := by decide
  have HS := Lib.hid h
  clear h
  go_enter Tryd.func13, Tryd.ntmps13
  go_wp2_with (first
    | (go_at_call 10; refine (ask_any _ _).mono ?_; rintro e w' ⟨rfl, rfl⟩)
    | (go_at_call 14; refine (reply_any _ _ _ _ HS.out).mono ?_; rintro e w' ⟨rfl, rfl⟩)
    | (go_at_call 16; refine (settle_any _ _ _ HS.out).mono ?_; rintro e w' ⟨rfl, rfl⟩))
  all_goals go_ret
  all_goals exact ⟨rfl, rfl⟩

abbrev laidS {H : Type} : List (String × DataW H) := [("leat/nego.shakes", Rows.laid_leat_nego_shakes)]
theorem gShakes : Tryd.prog.globalNamed "leat/nego.shakes" = some 0 := by kernel_rfl
theorem tShakes : (Tryd.prog.globals[0]?).map (·.type) = some 34 := by kernel_rfl
theorem door_metS (os : Os) (args : Array Value) : laidMetH Tryd.prog laidS ((World.doorLaid Tryd.prog 400 os).forCall (fun _ _ => 0) ⟨#[], args, []⟩).memory :=
  laidMetH_of_parts3 (fuel := 8) (laidMet_of_run' 8 (by kernel_rfl) (by kernel_rfl)) (by kernel_rfl) (by kernel_rfl)
theorem u8_of {W : World} {H : Type} {enc : TypeId × Value → H} {b : Nat} {sp : Nat → Bool} {hd : Bool} {m : Nat} {cs : List Value} {x : DataW H × List MemPlace} {z : Int}
    (h : DataW.trod enc Tryd.prog W b sp hd m 5 cs = some x) (e : x.1 = .lit (.int .u8 z)) : cs = [.int .u8 z] := by
  obtain ⟨u, e1, e2, _⟩ := DataW.trod_int Tryd.underlying5 h
  rw [e2] at e
  have : u = z := by simpa using e
  rw [e1, this]
/-- What the condition gives the walks: the four numbers' cells. -/
theorem of_laidS {W : World} (h : laidMetH Tryd.prog laidS W) : ShkAt W := by
  rw [MakeChecks.laidMetH_plain _ _ _ (by kernel_rfl)] at h
  obtain ⟨ps, ⟨g0, t0, cs0, f0, p0, q0, hg0, ht0, hv0, hd0, _, _⟩, _, _⟩ := h
  obtain rfl := Option.some.inj (gShakes.symm.trans hg0)
  obtain rfl := Option.some.inj (tShakes.symm.trans ht0)
  obtain ⟨xs, m1, rfl, hx1, hlen, hn3, hel⟩ := DataW.trod_array Tryd.underlying34 hd0
  have c9 : Tryd.prog.cellsOf 5 = 1 := by kernel_rfl
  have hl : [DataW.lit (.int .u8 2), .lit (.int .u8 3), .lit (.int .u8 4), .lit (.int .u8 6)] = xs.map (fun x => x.1) := by
    have := congrArg Prod.fst hx1
    simpa [Rows.laid_leat_nego_shakes] using this
  have key : ∀ i (u : Int), i < 4 → (xs.map (fun x => x.1))[i]? = some (.lit (.int .u8 u)) → W.cell? ⟨0, i, none⟩ = some (.int .u8 u) := by
    intro i u hi hu
    have hix : i < xs.length := by omega
    have h1 := hel i hi
    rw [List.getElem?_eq_getElem hix, c9] at h1
    rw [List.getElem?_map, List.getElem?_eq_getElem hix] at hu
    have h2 := u8_of h1 (by simpa using hu)
    have h3 : cs0.toList[i]? = some (.int .u8 u) := by
      have := congrArg (fun l => l[0]?) h2
      simpa [List.getElem?_drop, List.getElem?_take] using this
    have := World.var?_cell hg0 hv0 i
    rw [this]
    simpa using h3
  rw [← hl] at key
  exact ⟨key 0 2 (by omega) rfl, key 1 3 (by omega) rfl, key 2 4 (by omega) rfl, key 3 6 (by omega) rfl⟩
end Go.Proofs.YtelodojaicdebaaDoor
