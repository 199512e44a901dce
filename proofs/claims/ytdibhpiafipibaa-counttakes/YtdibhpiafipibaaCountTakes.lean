/- For every count, every list of ints and every int64: count.Take of each of the first fifty numbers, in turn, answers the document's count, and so does count.All of all of them; count.Start begins as the document says, and the chapter's example holds: CountTakes returns true and changes nothing that was there. No conditions. -/
import Derived.Test.YtdibhpiafipibaaKit
import Derived.Test.YtdibhpiafipibaaCntD
namespace Go.Proofs.Ytdibhpiafipibaa
namespace countTakes
open Go.ChangeShapes Go.WideShapes Go.ChangeAt Go.RowKit
open Go.ChangeMaps (open_string shut_string)
set_option linter.unusedVariables false

theorem four_kept {W w1 : World} {p q r s : Addr} {a b c d : Value} (hb : Below W.heap.size W w1) (h : W.cell? p = some a ∧ W.cell? q = some b ∧ W.cell? r = some c ∧ W.cell? s = some d) :
    w1.cell? p = some a ∧ w1.cell? q = some b ∧ w1.cell? r = some c ∧ w1.cell? s = some d := ⟨cell_kept hb h.1, cell_kept hb h.2.1, cell_kept hb h.2.2.1, cell_kept hb h.2.2.2⟩
theorem eight_kept {W w1 : World} {p q r s t u x y : Addr} {a b c d e f g h : Value} (hb : Below W.heap.size W w1) (k : W.cell? p = some a ∧ W.cell? q = some b ∧ W.cell? r = some c ∧ W.cell? s = some d ∧ W.cell? t = some e ∧ W.cell? u = some f ∧ W.cell? x = some g ∧ W.cell? y = some h) :
    w1.cell? p = some a ∧ w1.cell? q = some b ∧ w1.cell? r = some c ∧ w1.cell? s = some d ∧ w1.cell? t = some e ∧ w1.cell? u = some f ∧ w1.cell? x = some g ∧ w1.cell? y = some h :=
  ⟨cell_kept hb k.1, cell_kept hb k.2.1, cell_kept hb k.2.2.1, cell_kept hb k.2.2.2.1, cell_kept hb k.2.2.2.2.1, cell_kept hb k.2.2.2.2.2.1, cell_kept hb k.2.2.2.2.2.2.1, cell_kept hb k.2.2.2.2.2.2.2⟩
/-- While numbers are gone through: the count that came in, and the one that is wanted. -/
structure TkAt (w wr : World) (c d : Cn) : Prop where
  cnt : Blk wr w.heap.size (cnV c) 23
  want : Blk wr (w.heap.size + 1) (cnV d) 23
  low : Below w.heap.size w wr
theorem tk_start (w : World) (c : Cn) : TkAt w ((w.alloc (.cells #[.int .i64 c.cep, .int .i64 c.ceb, .int .i64 c.e0, .int .i64 c.e1] 23)).alloc (.cells #[.int .i64 c.cep, .int .i64 c.ceb, .int .i64 c.e0, .int .i64 c.e1] 23)) c c :=
  ⟨(Blk.new w (cnV c) _).alloc _, Blk.newAt (alloc_size w _) (cnV c) _, new_alloc (new_alloc (new_refl w) _) _⟩
theorem tk_more {w wr w1 : World} {c d e : Cn} (h : TkAt w wr c d) (B : Below wr.heap.size wr w1) : TkAt w ((((w1.setCell ⟨w.heap.size + 1, 0, none⟩ (.int .i64 e.cep)).setCell ⟨w.heap.size + 1, 1, none⟩ (.int .i64 e.ceb)).setCell ⟨w.heap.size + 1, 2, none⟩ (.int .i64 e.e0)).setCell ⟨w.heap.size + 1, 3, none⟩ (.int .i64 e.e1)) c e :=
  ⟨far4 (h.cnt.kept B) (by omega) _ _ _ _, cnt_set (h.want.kept B) e, low4 (new_then h.low B) (Nat.le_succ _) _ _ _ _⟩
def TkI (w : World) (c : Cn) (b : Int) (ks : List Int) (N gh : Nat) (vi : Value) (wr : World) : Prop := ∃ i : Nat, vi = .int .i64 (i : Int) ∧ N - i = gh ∧ i ≤ N ∧ TkAt w wr c (allC c b (ks.take i))
theorem own : ownKnob Try.prog.godebug = none := by kernel_rfl
theorem laidOut : laidOutB Try.prog = true := by kernel_rfl

set_option maxHeartbeats 4000000 in
set_option maxRecDepth 100000 in
theorem walk (a0x0 : Int) (a0x1 : Int) (a0x2 : Int) (a0x3 : Int) (a1 : Option Addr) (len1 cap1 : Nat) (z1 : List Int) (a2 : Int) (w : World) (w0x0 : (Lit.int .i64 a0x0).wf = true) (w0x1 : (Lit.int .i64 a0x1).wf = true) (w0x2 : (Lit.int .i64 a0x2).wf = true) (w0x3 : (Lit.int .i64 a0x3).wf = true) (w1 : IsRow .i64 w a1 len1 cap1 z1) (w2 : (Lit.int .i64 a2).wf = true) :
    Calls Try.prog 3 #[.agg #[.int .i64 a0x0, .int .i64 a0x1, .int .i64 a0x2, .int .i64 a0x3], .slice a1 len1 cap1, .int .i64 a2] w fun e w' => e = .returned (.bool true) ∧ Below w.heap.size w w' := by
  have b0 := bounds_i64 w0x0
  have b1 := bounds_i64 w0x1
  have b2 := bounds_i64 w0x2
  have b3 := bounds_i64 w0x3
  obtain ⟨c, hcc⟩ : ∃ c : Cn, c = ⟨a0x0, a0x1, a0x2, a0x3⟩ := ⟨_, rfl⟩
  have OK : Hid (CnOk c) := Lib.hid (by subst hcc; exact ⟨by unfold i64R; omega, by unfold i64R; omega, by unfold i64R; omega, by unfold i64R; omega⟩)
  obtain rfl : a0x0 = c.cep := by rw [hcc]
  obtain rfl : a0x1 = c.ceb := by rw [hcc]
  obtain rfl : a0x2 = c.e0 := by rw [hcc]
  obtain rfl : a0x3 = c.e1 := by rw [hcc]
  have hc1 := row_len w1
  have hc2 := (row_low w1).2
  unfold maxLen at hc2
  obtain ⟨N, hn⟩ : ∃ n, n = min len1 50 := ⟨_, rfl⟩
  have hn1 : N ≤ len1 := by omega
  have hn2 : N ≤ 50 := by omega
  have HW := Lib.hid w1
  have HN := Lib.hid hn
  have S := Lib.hid (tk_start w c)
  clear hcc b0 b1 b2 b3 w0x0 w0x1 w0x2 w0x3 w1 w2 hn
  go_enter Try.func3, Try.ntmps3
  go_upto_region 1 with (fail)
  go_cut [1] (fun v wx => v = .slice a1 N cap1 ∧ wx = w.alloc (.cells #[.int .i64 c.cep, .int .i64 c.ceb, .int .i64 c.e0, .int .i64 c.e1] 23))
  case first =>
    by_cases h40 : len1 ≤ 50
    · obtain rfl : len1 = N := by have := HN.out; omega
      have k1 : (len1 : Int) ≤ 50 := by omega
      have k2 : (0 : Int) ≤ (len1 : Int) := by omega
      have k3 : (len1 : Int) ≤ (cap1 : Int) := by omega
      go_wp2_with fail
      go_meet
      case rel => exact ⟨rfl, rfl⟩
    · obtain rfl : N = 50 := by have := HN.out; omega
      have k1 : (50 : Int) < (len1 : Int) := by omega
      have k3 : (50 : Int) ≤ (cap1 : Int) := by omega
      go_wp2_with fail
      go_meet
      case rel => exact ⟨rfl, rfl⟩
  case rest =>
    obtain ⟨rfl, rfl⟩ := hcut
    obtain ⟨g, hls⟩ := row_ls HW.out N hn1
    have hl := row_take HW.out N hn1
    generalize z1.take N = ks at hls hl
    have HL := Lib.hid hls
    have HQ := Lib.hid hl
    clear hls hl HW HN
    go_wp2_with fail
    go_loopg [18] N (fun gh vi wr => TkI w c a2 ks N gh vi wr)
    case atStart => exact ⟨0, rfl, rfl, by omega, by rw [allC_nil]; exact S.out⟩
    case round =>
      clear S
      obtain ⟨i, rfl, rfl, hi, C⟩ := hrel
      have HC := Lib.hid C
      have c0 := C.want.cell 0 rfl
      have c1 := C.want.cell 1 rfl
      have c2 := C.want.cell 2 rfl
      have c3 := C.want.cell 3 rfl
      by_cases hlt : i < N
      · have k0 : (0 : Int) ≤ (i : Int) := by omega
        have k1 : (i : Int) < (N : Int) := by omega
        have LS := HL.out.kept C.low
        rcases LS with rfl | ⟨off, rfl, hc⟩
        · have := HQ.out; simp at this; omega
        have z0 := hc i (by have := HQ.out; omega)
        have HS := Lib.hid (allC_snoc c a2 ks (i := i) (by have := HQ.out; omega))
        have OKI := Lib.hid (allC_ok OK.out a2 (ks.take i))
        clear C hc
        generalize allC c a2 (ks.take i) = d at *
        rw [show ks[i]?.getD 0 = bF ks i from rfl] at z0
        generalize bF ks i = k at *
        have NE := neqC (takC d k a2)
        have CT := Lib.hid (fun w => take15_any d k a2 w OKI.out)
        have CR := Lib.hid (fun w => refTake15_any d k a2 w OKI.out)
        have OK2 := Lib.hid (takC_ok OKI.out k a2)
        generalize ht : takC d k a2 = t at *
        have HT := Lib.hid ht
        clear ht
        go_upto_region 6 with (fail)
        go_region_held3 (fun w' => w'.cell? ⟨w.heap.size + 1, 0, none⟩ = some (.int .i64 d.cep) ∧ w'.cell? ⟨w.heap.size + 1, 1, none⟩ = some (.int .i64 d.ceb) ∧ w'.cell? ⟨w.heap.size + 1, 2, none⟩ = some (.int .i64 d.e0) ∧ w'.cell? ⟨w.heap.size + 1, 3, none⟩ = some (.int .i64 d.e1))
          (first | exact four_kept B16 (by assumption) | exact four_kept B16 ⟨by assumption, by assumption, by assumption, by assumption⟩ | go_keep | assumption)
          (first
            | (go_at_call 6; refine (CT.out _).mono ?_; rintro e w3 ⟨rfl, B16⟩; replace B16 := new_undrew B16; have L3 := B16)
            | (go_at_call 7; refine (CR.out _).mono ?_; rintro e w4 ⟨rfl, B16⟩; have L4 := new_then L3 B16))
        all_goals
          have M := tk_more (e := d) HC.out L4
          have K4 := HC.out.want.kept L4
          clear c0 c1 c2 c3 z0
          have c0 := K4.cell 0 rfl
          have c1 := K4.cell 1 rfl
          have c2 := K4.cell 2 rfl
          have c3 := K4.cell 3 rfl
          clear M K4 CT NE
          go_wp2_with (first
            | (go_at_call 7; refine (CR.out _).mono ?_; rintro e w5 ⟨rfl, B5⟩
               have L5 := new_then L4 B5
               have D := tk_more (e := t) HC.out L5
               have K := HC.out.want.kept L5
               have d0 := K.cell 0 rfl
               have d1 := K.cell 1 rfl
               have d2 := K.cell 2 rfl
               have d3 := K.cell 3 rfl
               have e0 := K.frozen 0
               have e1 := K.frozen 1
               have e2 := K.frozen 2
               have e3 := K.frozen 3))
          go_roundg (N - (i + 1))
          case measure => omega
          case rel => exact ⟨i + 1, by go_num, rfl, by omega, by rw [HS.out]; exact D⟩
      · obtain rfl : i = N := by omega
        rw [show ks.take i = ks from by rw [← HQ.out]; exact List.take_length] at *
        have HLS := Lib.hid (HL.out.kept C.low)
        have p0 := C.cnt.cell 0 rfl
        have p1 := C.cnt.cell 1 rfl
        have p2 := C.cnt.cell 2 rfl
        have p3 := C.cnt.cell 3 rfl
        have L := Lib.hid C.low
        clear C
        have CL : Hid (∀ w', LsK .i64 w' g a1 ks → Calls Try.prog 8 #[.agg #[.int .i64 c.cep, .int .i64 c.ceb, .int .i64 c.e0, .int .i64 c.e1], .slice a1 i cap1, .int .i64 a2] w' (CntIs w' (allC c a2 ks))) := Lib.hid (fun w' h => all15_any c a2 g i cap1 a1 ks w' OK.out h HQ.out (by omega))
        have EQ := eqlC (allC c a2 ks)
        have ES := eqlC ⟨a2, 0, 1, 1⟩
        dsimp only at ES
        generalize allC c a2 ks = d at *
        go_wp2_with fail
        go_region_held3 (fun w' => w'.cell? ⟨w.heap.size, 0, none⟩ = some (.int .i64 c.cep) ∧ w'.cell? ⟨w.heap.size, 1, none⟩ = some (.int .i64 c.ceb) ∧ w'.cell? ⟨w.heap.size, 2, none⟩ = some (.int .i64 c.e0) ∧ w'.cell? ⟨w.heap.size, 3, none⟩ = some (.int .i64 c.e1) ∧ w'.cell? ⟨w.heap.size + 1, 0, none⟩ = some (.int .i64 d.cep) ∧ w'.cell? ⟨w.heap.size + 1, 1, none⟩ = some (.int .i64 d.ceb) ∧ w'.cell? ⟨w.heap.size + 1, 2, none⟩ = some (.int .i64 d.e0) ∧ w'.cell? ⟨w.heap.size + 1, 3, none⟩ = some (.int .i64 d.e1))
          (first | exact eight_kept B16 (by assumption) | exact eight_kept B16 ⟨by assumption, by assumption, by assumption, by assumption, by assumption, by assumption, by assumption, by assumption⟩ | go_keep | assumption)
          (first
            | (go_at_call 8; refine (CL.out _ (HLS.out.draw 1)).mono ?_; rintro e w3 ⟨rfl, B16⟩; replace B16 := new_undrew B16; have L3 := B16)
            | (go_at_call 9; refine (start15_any a2 _).mono ?_; rintro e w4 ⟨rfl, B16⟩; have L4 := new_then L3 B16)
            | (go_at_call 10; refine (works15_any _).mono ?_; rintro e w5 ⟨rfl, B16⟩; have L5 := new_then L4 B16))
        all_goals
          go_wp2_with fail
          go_ret
          exact ⟨rfl, new_then L.out L5⟩

set_option maxRecDepth 100000 in
theorem lifted (os : Os) (started : os.Started) (H : Type) (enc : TypeId × Value → H) :
    ReturnsInHanded {} Try.checked os 3 .any (Rows.countTakesSpec.pre6 enc Try.prog Try.f3 Rows.countTakesRow.domain false) (Rows.countTakesSpec.post enc Try.prog Try.f3 false true false false) := by
  refine returnsInHanded_of_change (C := Try.checked) own started (by kernel_rfl) Try.func3
    (ChangeSpec.witness6 (enc := enc) (C := Try.checked) false ⟨#[], #[.agg #[.int .i64 0, .int .i64 0, .int .i64 0, .int .i64 0], .slice none 0 0, .int .i64 0], []⟩ 8 (by kernel_rfl) (by kernel_rfl) (by kernel_rfl) (by kernel_rfl)) ?_
  intro W base args ds gs before hval0 hW hcnd _
  have hval : ∀ (j : Nat) t v, Try.f3.params[j]? = some t → args[j]? = some v → Value.okWide Try.prog W .any base t v := hval0
  have hW' := hW
  obtain ⟨p, q, hA0, hV, rfl, hfz, hnd⟩ := hW
  have hA : DataW.TrodAll enc Try.prog W 0 (fun _ => true) true Try.f3.params.toList args.toList ds p := hA0
  rw [Try.params3] at hA hval
  obtain ⟨v0, vs0, d0, ds0, p0, q0, hargs, rfl, rfl, h0, r0⟩ := trodAll_cons hA
  obtain ⟨v1, vs1, d1, ds1, p1, q1, rfl, rfl, rfl, h1, r1⟩ := trodAll_cons r0
  obtain ⟨v2, vs2, d2, ds2, p2, q2, rfl, rfl, rfl, h2, r2⟩ := trodAll_cons r1
  obtain ⟨rfl, rfl, rfl⟩ := trodAll_nil r2
  obtain rfl : args = #[v0, v1, v2] := by cases args; simp_all
  obtain ⟨rfl, rfl⟩ := trodVars_none hV
  have k0 := h0
  have lt0 : ∀ x ∈ p0, x.block < W.heap.size := by obtain ⟨m, hm⟩ := k0; exact DataW.trod_lt m _ _ _ hm
  obtain ⟨cs0, rfl, l0, L0⟩ := flat_of (n := 4) (ls := [(0, .inl .i64), (1, .inl .i64), (2, .inl .i64), (3, .inl .i64)]) (by kernel_rfl) (by kernel_rfl) (agg_of_struct Try.underlying23 (hval 0 23 v0 rfl rfl)) h0
  obtain ⟨a0x0, e0x0, w0x0⟩ := leaf_int (L0 (0, .inl .i64) (by simp))
  obtain ⟨a0x1, e0x1, w0x1⟩ := leaf_int (L0 (1, .inl .i64) (by simp))
  obtain ⟨a0x2, e0x2, w0x2⟩ := leaf_int (L0 (2, .inl .i64) (by simp))
  obtain ⟨a0x3, e0x3, w0x3⟩ := leaf_int (L0 (3, .inl .i64) (by simp))
  obtain rfl : cs0 = [.int .i64 a0x0, .int .i64 a0x1, .int .i64 a0x2, .int .i64 a0x3] := list_is l0 rfl (by intro i hi; match i, hi with | 0, _ => exact e0x0 | 1, _ => exact e0x1 | 2, _ => exact e0x2 | 3, _ => exact e0x3)
  have k1 := h1
  have lt1 : ∀ x ∈ p1, x.block < W.heap.size := by obtain ⟨m, hm⟩ := k1; exact DataW.trod_lt m _ _ _ hm
  obtain ⟨a1, len1, cap1, rfl⟩ := okWide_slice Try.underlying24 (hval 1 24 v1 rfl rfl)
  obtain ⟨z1, w1⟩ := isRow_of Try.underlying24 Try.underlying3 (by kernel_rfl) h1
  have k2 := h2
  have lt2 : ∀ x ∈ p2, x.block < W.heap.size := by obtain ⟨m, hm⟩ := k2; exact DataW.trod_lt m _ _ _ hm
  obtain ⟨a2, rfl, _, _, w2⟩ := open_int Try.underlying2 (hval 2 2 v2 rfl rfl) h2
  clear hA0 hval0
  refine (walk a0x0 a0x1 a0x2 a0x3 a1 len1 cap1 z1 a2 W w0x0 w0x1 w0x2 w0x3 w1 w2).mono fun e W' ⟨he, bel⟩ => ?_
  subst he
  exact ⟨_, rfl, _, _, _, [], _, [], hW', trodAll_mk1 (shut_bool Try.underlying4 _), (trodAll_cons_mk (Below.trod laidOut (by kernel_rfl) (of_decide_eq_true (by kernel_rfl)) k0 bel lt0) (trodAll_cons_mk (Below.trod laidOut (by kernel_rfl) (of_decide_eq_true (by kernel_rfl)) k1 bel lt1) (trodAll_cons_mk (Below.trod laidOut (by kernel_rfl) (of_decide_eq_true (by kernel_rfl)) k2 bel lt2) trodAll_mk0))), rfl, bel.frame _, fun h => by cases h⟩

theorem over : Rows.countTakesRow.holds Try.pinned (OpenSpec.ofChange Rows.countTakesSpec) :=
  OpenClaim.holds_of_wide 3 Try.f3 rfl rfl rfl rfl rfl rfl rfl ⟨rfl, rfl, rfl, rfl, rfl⟩ rfl rfl rfl rfl rfl (by kernel_rfl) Try.func3 (by kernel_rfl)
    (of_decide_eq_true (by kernel_rfl)) (by unfold Func.isWrapper; first | (rw [if_pos (by decide +kernel)]; kernel_rfl) | (rw [if_neg (by decide +kernel)]; exact ⟨rfl, rfl⟩))
    (fun os started H enc _ => lifted os started H enc)
end countTakes
theorem countTakes_holds : Rows.CountTakesSaid := countTakes.over
end Go.Proofs.Ytdibhpiafipibaa
