/- For every count and every int as the turn: count.Ace, count.Bytes and count.Option tell the count as the document says, and the counters of the option are the fields; and the chapter's example holds: CountTells returns true and changes nothing that was there. No conditions. -/
import Derived.Test.YtdibhpiafipibaaKit
import Derived.Test.YtdibhpiafipibaaCntD
namespace Go.Proofs.Ytdibhpiafipibaa
namespace countTells
open Go.ChangeShapes Go.WideShapes Go.ChangeAt Go.RowKit
open Go.ChangeMaps (open_string shut_string)
set_option linter.unusedVariables false

theorem seven_kept {W w1 : World} {p q r s t u x : Addr} {a b c d e f g : Value} (hb : Below W.heap.size W w1) (k : W.cell? p = some a ∧ W.cell? q = some b ∧ W.cell? r = some c ∧ W.cell? s = some d ∧ W.cell? t = some e ∧ W.cell? u = some f ∧ W.cell? x = some g) :
    w1.cell? p = some a ∧ w1.cell? q = some b ∧ w1.cell? r = some c ∧ w1.cell? s = some d ∧ w1.cell? t = some e ∧ w1.cell? u = some f ∧ w1.cell? x = some g :=
  ⟨cell_kept hb k.1, cell_kept hb k.2.1, cell_kept hb k.2.2.1, cell_kept hb k.2.2.2.1, cell_kept hb k.2.2.2.2.1, cell_kept hb k.2.2.2.2.2.1, cell_kept hb k.2.2.2.2.2.2⟩
/-- The counters of the option are the fields. -/
theorem ctr_byt (c : Cn) (t : Int) : cO (opC c t).k (opC c t).zs (min 3 3) 0 = loO c.e0 ∧ cO (opC c t).k (opC c t).zs (min 3 3) 1 = loO c.ceb ∧ cO (opC c t).k (opC c t).zs (min 3 3) 2 = loO c.e1 := by
  unfold opC kd15 accO
  split <;> simp [kdA, cO, acL, acN, srcA, plO, bF, List.range_succ]
theorem ctr_any15 (c : Cn) (t : Int) (A : Option Addr) (n cp : Nat) (w : World) (h : HasO w ⟨opC c t, A, n, cp⟩) : Calls Try.prog 18 #[.agg #[.int .i64 (opC c t).k, .slice A n cp, .string (opC c t).s]] w (BytTo w c) := by
  have hn : n = 3 := by
    have := h.len
    simp only [opC, accO, acL_len] at this
    omega
  subst hn
  obtain ⟨e0, e1, e2⟩ := ctr_byt c t
  refine (counters_any ⟨opC c t, A, 3, cp⟩ w h).mono ?_
  rintro e w' ⟨rfl, B⟩
  exact ⟨by dsimp only; rw [e0, e1, e2], B⟩
theorem own : ownKnob Try.prog.godebug = none := by kernel_rfl
theorem laidOut : laidOutB Try.prog = true := by kernel_rfl

set_option maxHeartbeats 4000000 in
set_option maxRecDepth 100000 in
theorem walk (a0x0 : Int) (a0x1 : Int) (a0x2 : Int) (a0x3 : Int) (a1 : Int) (w : World) (w0x0 : (Lit.int .i64 a0x0).wf = true) (w0x1 : (Lit.int .i64 a0x1).wf = true) (w0x2 : (Lit.int .i64 a0x2).wf = true) (w0x3 : (Lit.int .i64 a0x3).wf = true) (w1 : (Lit.int .i64 a1).wf = true) :
    Calls Try.prog 4 #[.agg #[.int .i64 a0x0, .int .i64 a0x1, .int .i64 a0x2, .int .i64 a0x3], .int .i64 a1] w fun e w' => e = .returned (.bool true) ∧ Below w.heap.size w w' := by
  have b0 := bounds_i64 w0x0
  have b1 := bounds_i64 w0x1
  have b2 := bounds_i64 w0x2
  have b3 := bounds_i64 w0x3
  obtain ⟨c, hcc⟩ : ∃ c : Cn, c = ⟨a0x0, a0x1, a0x2, a0x3⟩ := ⟨_, rfl⟩
  have ok : CnOk c := by subst hcc; exact ⟨by unfold i64R; omega, by unfold i64R; omega, by unfold i64R; omega, by unfold i64R; omega⟩
  obtain rfl : a0x0 = c.cep := by rw [hcc]
  obtain rfl : a0x1 = c.ceb := by rw [hcc]
  obtain rfl : a0x2 = c.e0 := by rw [hcc]
  obtain rfl : a0x3 = c.e1 := by rw [hcc]
  have CO := Lib.hid (fun w => opt15_any c ok a1 w)
  have CP := Lib.hid (fun w => refOpt15_any c ok a1 w)
  have CB := Lib.hid (fun w => bytes15_any c ok w)
  have CR := Lib.hid (fun w => refBytes15_any c ok w)
  have CL := Lib.hid (fun w => refLow15_any c.cep 8 w ok.cep (by omega))
  have CA := Lib.hid (fun w => ace15_any c w ok.cep)
  have CC := Lib.hid (fun A n cp w h => ctr_any15 c a1 A n cp w h)
  unfold BytTo at CB CR CC
  have hq := eqlT (loO c.e0) (loO c.ceb) (loO c.e1)
  have m0 : 0 ≤ c.cep % 8 := by omega
  have m1 : c.cep % 8 < 8 := by omega
  clear hcc b0 b1 b2 b3 w0x0 w0x1 w0x2 w0x3 w1 ok
  generalize c.cep % 8 = m at *
  generalize opC c a1 = o at CO CP CC
  generalize loO c.e0 = q0 at *
  generalize loO c.ceb = q1 at *
  generalize loO c.e1 = q2 at *
  have ew : IntKind.i64.wrap m = m := by rw [IntKind.wrap_i64]; omega
  have A0 := Blk.new w (cnV c) 23
  have L0 := new_alloc (new_refl w) (.cells #[.int .i64 c.cep, .int .i64 c.ceb, .int .i64 c.e0, .int .i64 c.e1] 23)
  go_enter Try.func4, Try.ntmps4
  go_upto_region 1 with (fail)
  generalize w.alloc (.cells #[.int .i64 c.cep, .int .i64 c.ceb, .int .i64 c.e0, .int .i64 c.e1] 23) = W at *
  have c0 := A0.cell 0 rfl
  have c1 := A0.cell 1 rfl
  have c2 := A0.cell 2 rfl
  have c3 := A0.cell 3 rfl
  go_upto_region 2 with (go_at_call 11; refine (CO.out _).mono ?_; rintro e w1 ⟨A, n, cp, rfl, H, B1⟩)
  have H1 := H.kept (new_alloc (new_refl w1) (.cells #[.int .i64 o.k, .slice A n cp, .string o.s] 32))
  have A1 := (A0.kept B1).alloc (.cells #[.int .i64 o.k, .slice A n cp, .string o.s] 32)
  have O1 := Blk.new w1 [.int .i64 o.k, .slice A n cp, .string o.s] 32
  have L1 := Lib.hid (new_alloc (new_then L0 B1) (.cells #[.int .i64 o.k, .slice A n cp, .string o.s] 32))
  generalize w1.alloc (.cells #[.int .i64 o.k, .slice A n cp, .string o.s] 32) = V at *
  generalize w1.heap.size = p at *
  clear c0 c1 c2 c3 A0 L0 H B1
  have c0 := A1.cell 0 rfl
  have c1 := A1.cell 1 rfl
  have c2 := A1.cell 2 rfl
  have c3 := A1.cell 3 rfl
  have o0 := O1.cell 0 rfl
  have o1 := O1.cell 1 rfl
  have o2 := O1.cell 2 rfl
  have HO := Lib.hid H1
  clear A1 O1 H1
  go_region_held3 (fun w' => w'.cell? ⟨w.heap.size, 0, none⟩ = some (.int .i64 c.cep) ∧ w'.cell? ⟨w.heap.size, 1, none⟩ = some (.int .i64 c.ceb) ∧ w'.cell? ⟨w.heap.size, 2, none⟩ = some (.int .i64 c.e0) ∧ w'.cell? ⟨w.heap.size, 3, none⟩ = some (.int .i64 c.e1) ∧ w'.cell? ⟨p, 0, none⟩ = some (.int .i64 o.k) ∧ w'.cell? ⟨p, 1, none⟩ = some (.slice A n cp) ∧ w'.cell? ⟨p, 2, none⟩ = some (.string o.s))
    (first | exact seven_kept B16 (by assumption) | exact seven_kept B16 ⟨by assumption, by assumption, by assumption, by assumption, by assumption, by assumption, by assumption⟩ | go_keep | assumption)
    (first
      | (go_at_call 12; refine (CA.out _).mono ?_; rintro e w3 ⟨rfl, B16⟩; replace B16 := new_undrew B16; have L3 := B16)
      | (go_at_call 13; refine (CL.out _).mono ?_; rintro e w4 ⟨rfl, rfl⟩)
      | (go_at_call 14; refine (CB.out _).mono ?_; rintro e w5 ⟨rfl, B16⟩; have L5 := new_then L3 B16)
      | (go_at_call 15; have h := L9; clear h; refine (CR.out _).mono ?_; rintro e w10 ⟨rfl, B16⟩; have L10 := new_then L9 B16)
      | (go_at_call 15; refine (CR.out _).mono ?_; rintro e w6 ⟨rfl, B16⟩; have L6 := new_then L5 B16)
      | (go_at_call 17; refine (CP.out _).mono ?_; rintro e w7 ⟨A7, n7, c7, rfl, H7, B16⟩; have L7 := new_then L6 B16)
      | (go_at_call 16; refine (same_any ⟨o, A, n, cp⟩ ⟨o, A7, n7, c7⟩ _ (HO.out.kept L7) H7 rfl).mono ?_; rintro e w8 ⟨rfl, B16⟩; have L8 := new_then L7 B16)
      | (go_at_call 18; refine (CC.out _ _ _ _ (HO.out.kept L8)).mono ?_; rintro e w9 ⟨rfl, B16⟩; have L9 := new_then L8 B16)
      | (go_at_call 10; refine (works15_any _).mono ?_; rintro e w11 ⟨rfl, B16⟩; have L11 := new_then L10 B16))
  all_goals
    go_wp2_with fail
    go_ret
    exact ⟨rfl, new_then L1.out L11⟩

set_option maxRecDepth 100000 in
theorem lifted (os : Os) (started : os.Started) (H : Type) (enc : TypeId × Value → H) :
    ReturnsInHanded {} Try.checked os 4 .any (Rows.countTellsSpec.pre6 enc Try.prog Try.f4 Rows.countTellsRow.domain false) (Rows.countTellsSpec.post enc Try.prog Try.f4 false true false false) := by
  refine returnsInHanded_of_change (C := Try.checked) own started (by kernel_rfl) Try.func4
    (ChangeSpec.witness6 (enc := enc) (C := Try.checked) false ⟨#[], #[.agg #[.int .i64 0, .int .i64 0, .int .i64 0, .int .i64 0], .int .i64 0], []⟩ 8 (by kernel_rfl) (by kernel_rfl) (by kernel_rfl) (by kernel_rfl)) ?_
  intro W base args ds gs before hval0 hW hcnd _
  have hval : ∀ (j : Nat) t v, Try.f4.params[j]? = some t → args[j]? = some v → Value.okWide Try.prog W .any base t v := hval0
  have hW' := hW
  obtain ⟨p, q, hA0, hV, rfl, hfz, hnd⟩ := hW
  have hA : DataW.TrodAll enc Try.prog W 0 (fun _ => true) true Try.f4.params.toList args.toList ds p := hA0
  rw [Try.params4] at hA hval
  obtain ⟨v0, vs0, d0, ds0, p0, q0, hargs, rfl, rfl, h0, r0⟩ := trodAll_cons hA
  obtain ⟨v1, vs1, d1, ds1, p1, q1, rfl, rfl, rfl, h1, r1⟩ := trodAll_cons r0
  obtain ⟨rfl, rfl, rfl⟩ := trodAll_nil r1
  obtain rfl : args = #[v0, v1] := by cases args; simp_all
  obtain ⟨rfl, rfl⟩ := trodVars_none hV
  have k0 := h0
  have lt0 : ∀ x ∈ p0, x.block < W.heap.size := by obtain ⟨m, hm⟩ := k0; exact DataW.trod_lt m _ _ _ hm
  obtain ⟨cs0, rfl, l0, L0⟩ := flat_of (n := 4) (ls := [(0, .inl .i64), (1, .inl .i64), (2, .inl .i64), (3, .inl .i64)]) (by kernel_rfl) (by kernel_rfl) (agg_of_struct Try.underlying23 (hval 0 23 v0 rfl rfl)) h0
  obtain ⟨a0x0, e0x0, w0x0⟩ := leaf_int (L0 (0, .inl .i64) (by simp))
  obtain ⟨a0x1, e0x1, w0x1⟩ := leaf_int (L0 (1, .inl .i64) (by simp))
  obtain ⟨a0x2, e0x2, w0x2⟩ := leaf_int (L0 (2, .inl .i64) (by simp))
  obtain ⟨a0x3, e0x3, w0x3⟩ := leaf_int (L0 (3, .inl .i64) (by simp))
  obtain rfl : cs0 = [.int .i64 a0x0, .int .i64 a0x1, .int .i64 a0x2, .int .i64 a0x3] := list_is l0 rfl (by intro i hi; match i, hi with | 0, _ => exact e0x0 | 1, _ => exact e0x1 | 2, _ => exact e0x2 | 3, _ => exact e0x3)
  have k1 := h1
  have lt1 : ∀ x ∈ p1, x.block < W.heap.size := by obtain ⟨m, hm⟩ := k1; exact DataW.trod_lt m _ _ _ hm
  obtain ⟨a1, rfl, _, _, w1⟩ := open_int Try.underlying3 (hval 1 3 v1 rfl rfl) h1
  clear hA0 hval0
  refine (walk a0x0 a0x1 a0x2 a0x3 a1 W w0x0 w0x1 w0x2 w0x3 w1).mono fun e W' ⟨he, bel⟩ => ?_
  subst he
  exact ⟨_, rfl, _, _, _, [], _, [], hW', trodAll_mk1 (shut_bool Try.underlying4 _), (trodAll_cons_mk (Below.trod laidOut (by kernel_rfl) (of_decide_eq_true (by kernel_rfl)) k0 bel lt0) (trodAll_cons_mk (Below.trod laidOut (by kernel_rfl) (of_decide_eq_true (by kernel_rfl)) k1 bel lt1) trodAll_mk0)), rfl, bel.frame _, fun h => by cases h⟩

theorem over : Rows.countTellsRow.holds Try.pinned (OpenSpec.ofChange Rows.countTellsSpec) :=
  OpenClaim.holds_of_wide 4 Try.f4 rfl rfl rfl rfl rfl rfl rfl ⟨rfl, rfl, rfl, rfl, rfl⟩ rfl rfl rfl rfl rfl (by kernel_rfl) Try.func4 (by kernel_rfl)
    (of_decide_eq_true (by kernel_rfl)) (by unfold Func.isWrapper; first | (rw [if_pos (by decide +kernel)]; kernel_rfl) | (rw [if_neg (by decide +kernel)]; exact ⟨rfl, rfl⟩))
    (fun os started H enc _ => lifted os started H enc)
end countTells
theorem countTells_holds : Rows.CountTellsSaid := countTells.over
end Go.Proofs.Ytdibhpiafipibaa
