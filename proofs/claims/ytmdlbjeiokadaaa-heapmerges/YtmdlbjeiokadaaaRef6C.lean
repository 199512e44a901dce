/- The document's own answers of layer 6: Drop. The law's own helpers: event, first. -/
import Derived.Test.YtmdlbjeiokadaaaRef6A
import Derived.Test.YtmdlbjeiokadaaaHeapJ
import Derived.Laws.StructEq
namespace Go.Proofs.Ytmdlbjeiokadaaa
open Go.RowKit
set_option linter.unusedVariables false

theorem event_any (x : Ev) (w : World) :
    Calls Try.prog 14 #[aggE x] w fun e w' => e = .returned (aggE x) ∧ Below w.heap.size w w' := by
  go_enter Try.func14, Try.ntmps14
  go_wp2_with fail
  exact bodyPost_ret (v := aggE x) (by simp [results, Try.results14, go_sem]) rfl ⟨rfl, new_alloc (new_alloc (new_refl w) _) _⟩

/-- Does it stay? -/
def kpE (f : Int) (x : Ev) : Bool := !(x.f == f)
theorem kp_ev (f : Int) (L : List Wt) : (L.filter (kp f)).map Wt.ev = (L.map Wt.ev).filter (kpE f) := by
  induction L with
  | nil => rfl
  | cons x L ih =>
    rw [List.map_cons, List.filter_cons, List.filter_cons]
    have e : kp f x = kpE f x.ev := rfl
    rw [e]
    split <;> simp [ih]
def DropInv6 (w : World) (f : Int) (L : List Ev) (N gh : Nat) (vi vo : Value) (wr : World) : Prop :=
  ∃ k : Nat, vi = .int .i64 (k : Int) ∧ N - k = gh ∧ k ≤ N ∧ OwnV wr w.heap.size vo ((L.take k).filter (kpE f)) ∧ Below w.heap.size w wr
/-- What Drop leaves. -/
def DropE (w : World) (L : List Ev) (M : Nat) (e : Ending) (w' : World) : Prop :=
  ∃ g A c, e = .returned (.slice A M c) ∧ LstE w' g A L ∧ M ≤ c ∧ (A = none → c = 0) ∧ (L ≠ [] → w.heap.size ≤ g) ∧ Below w.heap.size w w'
theorem drop_fin {w wr : World} {L : List Ev} {M : Nat} {v : Value} (h : OwnV wr w.heap.size v L) (hM : L.length = M) (B : Below w.heap.size w wr) : DropE w L M (.returned v) wr := by
  rcases h.form with ⟨rfl, rfl⟩ | ⟨g, cap, rfl⟩
  · subst hM
    exact ⟨0, none, 0, rfl, .inl ⟨rfl, rfl⟩, Nat.le_refl _, fun _ => rfl, fun h => absurd rfl h, B⟩
  · subst hM
    have h1 := h.lt encE_is
    exact ⟨g, _, cap, rfl, LstE.own h, h.len.2, fun h => (by cases h), fun _ => h1.1, B⟩
theorem take_oneE {L : List Ev} {j : Nat} (h : j < L.length) : L.take (j + 1) = L.take j ++ [nthE L j] := by rw [List.take_succ_eq_append_getElem h, nthE_eq h]
set_option maxRecDepth 100000 in
set_option maxHeartbeats 1000000 in
theorem refDrop6_any (g c N M : Nat) (A : Option Addr) (f : Int) (L : List Ev) (w : World) (h : LstE w g A L) (hN : L.length = N) (hl : N ≤ 1000000) (hM : (L.filter (kpE f)).length = M) :
    Calls Try.prog 10 #[.slice A N c, .int .i64 f] w (DropE w (L.filter (kpE f)) M) := by
  have H := Lib.hid h
  have HN := Lib.hid hN
  have HM := Lib.hid hM
  clear h hN hM
  go_enter Try.func10, Try.ntmps10
  go_wp2_with fail
  go_loopg [6, 5] N (fun gh vi vo wr => DropInv6 w f L N gh vi vo wr)
  case atStart => exact ⟨0, rfl, rfl, by omega, OwnE.nil _ _ _ _ _, new_refl w⟩
  case round =>
    obtain ⟨k, rfl, rfl, hk, hO, B⟩ := hrel
    have hnl := HN.out
    by_cases hlt : k < N
    · rcases H.out with ⟨_, e⟩ | ⟨off, rfl, hF⟩
      · rw [e] at hnl; simp at hnl; omega
      obtain ⟨a0, a1, a2, a3⟩ := (hF k (by omega)).out (Out.of B (fun _ => False)) (fun x => x)
      generalize hx : nthE L k = x at a0 a1 a2 a3
      have HX := Lib.hid hx
      have k0 : (0 : Int) ≤ (k : Int) := by omega
      have k1 : (k : Int) < (N : Int) := by omega
      have HL : Hid (((L.take k).filter (kpE f)).length ≤ 1000000) := Lib.hid (by have := List.length_filter_le (kpE f) (L.take k); simp at this; omega)
      obtain ⟨n1, hn1⟩ : ∃ n1, ((L.take k).filter (kpE f)).length + 1 = n1 := ⟨_, rfl⟩
      have hn2 : n1 ≤ 1000000000 := by have := HL.out; omega
      have HN1 := Lib.hid hn1
      have HO := Lib.hid hO
      have hs := B.size
      have HT := Lib.hid (take_oneE (L := L) (j := k) (by omega))
      clear hx hn1 hO HL hF
      cases hq : x.f == f
      · have d1 : (x.f != f) = true := by rw [bne, hq]; rfl
        have d2 : ¬ x.f = f := by simpa using hq
        go_wp2_with (first
          | (at_builtin; refine wp_pushE encE_is strE (by rfl) _ _ (by rfl) w.heap.size _ ((L.take k).filter (kpE f)) x _ 1 (by rfl) (by rfl) (At.new wr (encE x) _) (HO.out.alloc _) n1 HN1.out hn2 (alloc_le hs _) _ rfl ?_; intro g1 c1 w1 O1 G1 hat1 hlt1))
        go_roundg (N - (k + 1))
        case measure => omega
        case rel =>
          refine ⟨k + 1, by go_num, rfl, by omega, ?_, (B.alloc hs _).trans (below_pushE (HO.out.alloc _) G1 (alloc_le hs _))⟩
          rw [HT.out, HX.out, List.filter_append]
          have e1 : [x].filter (kpE f) = [x] := by simp [kpE, d2]
          rw [e1]
          exact O1
      · have d1 : (x.f != f) = false := by rw [bne, hq]; rfl
        have d2 : x.f = f := by simpa using hq
        go_wp2_with fail
        go_roundg (N - (k + 1))
        case measure => omega
        case rel =>
          refine ⟨k + 1, by go_num, rfl, by omega, ?_, B⟩
          rw [HT.out, HX.out, List.filter_append]
          have e1 : [x].filter (kpE f) = [] := by simp [kpE, d2]
          rw [e1, List.append_nil]
          exact HO.out
    · obtain rfl : k = N := by omega
      have e : L.take k = L := List.take_of_length_le (by omega)
      rw [e] at hO
      have HO := Lib.hid hO
      clear hO
      go_wp2_with fail
      go_ret
      exact drop_fin HO.out HM.out B

theorem first_none (c : Nat) (A : Option Addr) (w : World) :
    Calls Try.prog 9 #[noE, .bool false, .slice A 0 c] w fun e w' => e = .returned (.bool true) ∧ Below w.heap.size w w' := by
  have hS : Try.prog.underlying 27 = some (.struct (Try.prog.fieldsOf 27)) := by kernel_rfl
  have hp : Try.prog.stoodInHeld 27 = false := by kernel_rfl
  have hq : ∀ w, (binOp .eql 27 noE noE).run Try.prog w = .ok (.bool true) w := fun w => by
    rw [run_eql_struct, show (10000 : Nat) = 9999 + 1 from rfl, run_equalIn_agg w 9999 27 _ _ hS hp]
    simp only [Program.fieldsOf, Try.underlying27]
    go_simp
  go_enter Try.func9, Try.ntmps9
  go_wp2_with fail
  go_ret
  exact ⟨rfl, new_alloc (new_refl w) _⟩
set_option maxRecDepth 100000 in
set_option maxHeartbeats 1000000 in
theorem first_some (g off n c : Nat) (x : Ev) (w : World) (h : Four w g off x) :
    Calls Try.prog 9 #[aggE x, .bool true, .slice (some ⟨g, off, none⟩) (n + 1) c] w fun e w' => e = .returned (.bool true) ∧ Below w.heap.size w w' := by
  obtain ⟨x0, x1, x2, x3⟩ := x
  have hS : Try.prog.underlying 37 = some (.struct (Try.prog.fieldsOf 37)) := by kernel_rfl
  have hp : Try.prog.stoodInHeld 37 = false := by kernel_rfl
  have hq : ∀ w, (binOp .eql 37 (.agg #[.int .i64 x0, .int .i64 x1, .int .i64 x2, .int .i64 x3]) (.agg #[.int .i64 x0, .int .i64 x1, .int .i64 x2, .int .i64 x3])).run Try.prog w = .ok (.bool true) w := fun w => by
    rw [run_eql_struct, show (10000 : Nat) = 9999 + 1 from rfl, run_equalIn_agg w 9999 37 _ _ hS hp]
    simp only [Program.fieldsOf, Try.underlying37]
    go_simp
  have BA := new_alloc (new_refl w) (.cells #[.int .i64 x0, .int .i64 x1, .int .i64 x2, .int .i64 x3] 27)
  have A0 := Blk.new w [.int .i64 x0, .int .i64 x1, .int .i64 x2, .int .i64 x3] 27
  obtain ⟨a0, a1, a2, a3⟩ := h.out (Out.of BA (fun _ => False)) (fun x => x)
  clear h
  have n0 : (0 : Int) < (n : Int) + 1 := by omega
  go_enter Try.func9, Try.ntmps9
  go_upto_region 3 with (fail)
  generalize hW : w.alloc (.cells #[.int .i64 x0, .int .i64 x1, .int .i64 x2, .int .i64 x3] 27) = W at BA A0 a0 a1 a2 a3 ⊢
  clear hW
  have e0 := A0.cell 0 rfl
  have e1 := A0.cell 1 rfl
  have e2 := A0.cell 2 rfl
  have e3 := A0.cell 3 rfl
  go_region_held3 (fun w' => w'.cell? ⟨w.heap.size, 0, none⟩ = some (.int .i64 x0) ∧ w'.cell? ⟨w.heap.size, 1, none⟩ = some (.int .i64 x1) ∧ w'.cell? ⟨w.heap.size, 2, none⟩ = some (.int .i64 x2) ∧ w'.cell? ⟨w.heap.size, 3, none⟩ = some (.int .i64 x3) ∧ w'.cell? ⟨g, off, none⟩ = some (.int .i64 x0) ∧ w'.cell? ⟨g, off + 1, none⟩ = some (.int .i64 x1) ∧ w'.cell? ⟨g, off + 2, none⟩ = some (.int .i64 x2) ∧ w'.cell? ⟨g, off + 3, none⟩ = some (.int .i64 x3))
    (first | exact ⟨cell_kept BE e0, cell_kept BE e1, cell_kept BE e2, cell_kept BE e3, cell_kept BE a0, cell_kept BE a1, cell_kept BE a2, cell_kept BE a3⟩ | go_keep)
    (first | (go_at_call 14; refine (event_any ⟨x0, x1, x2, x3⟩ _).mono ?_; rintro e w1 ⟨rfl, BE0⟩; have BE := new_undrew BE0))
  all_goals
    go_wp2_with fail
    go_ret
    exact ⟨rfl, new_then BA (by first | exact BE | exact new_draw BE _)⟩
end Go.Proofs.Ytmdlbjeiokadaaa
