/- The document's Encode of layer 11; the chapter's example. -/
import Derived.Test.YtnkcnfkonifmhaaZFlgB
namespace Go.Proofs.Ytnkcnfkonifmhaa
open Go.RowKit
set_option linter.unusedVariables false

theorem refPut2_any (n : Int) (w : World) (h : 0 ≤ n ∧ n ≤ 65535) : Calls Try.prog 46 #[.int .u32 n, .int .i64 2] w (BytesOf w (twoF n) 2) := by
  refine (refPut_any 2 n w (by decide) h.1 (by omega)).mono fun e w' hl => ?_
  rw [putF_two h] at hl
  exact hl.bytes rfl (by decide)
theorem refPut4_any (n : Int) (w : World) (h : 0 ≤ n ∧ n ≤ 4294967295) : Calls Try.prog 46 #[.int .u32 n, .int .i64 4] w (BytesOf w (fourF n) 4) := by
  refine (refPut_any 4 n w (by decide) h.1 h.2).mono fun e w' hl => ?_
  rw [putF_four h] at hl
  exact hl.bytes rfl (by decide)
theorem two_low {B : Nat} {w w' : World} {b i j : Nat} {u v : Value} (hB : Below B w w') (hb : b < B) (h : w.cell? ⟨b, i, none⟩ = some u ∧ w.cell? ⟨b, j, none⟩ = some v) : w'.cell? ⟨b, i, none⟩ = some u ∧ w'.cell? ⟨b, j, none⟩ = some v :=
  ⟨cell_low hB hb h.1, cell_low hB hb h.2⟩
theorem refEncode_no (h : Hd) (ok : HdOk h) (w : World) (hf : ¬ fitF h) :
    Calls Try.prog 24 #[.agg #[.int .u16 h.src, .int .u16 h.dst, .int .u32 h.seq, .int .u32 h.ack, .int .u8 h.off, .int .u8 h.ace, .int .u8 h.fl, .int .u16 h.win, .int .u16 h.sum, .int .u16 h.urg]] w fun e w' => e = .returned (.tuple #[.slice none 0 0, .int .i64 2]) ∧ Below w.heap.size w w' := by
  have hc : h.off < 5 ∨ (¬ h.off < 5 ∧ 15 < h.off) ∨ (¬ h.off < 5 ∧ ¬ 15 < h.off ∧ 7 < h.ace) ∨ (¬ h.off < 5 ∧ ¬ 15 < h.off ∧ ¬ 7 < h.ace ∧ 63 < h.fl) := by unfold fitF at hf; omega
  clear hf ok
  rcases hc with h1 | ⟨h1, h2⟩ | ⟨h1, h2, h3⟩ | ⟨h1, h2, h3, h4⟩
  all_goals
    go_enter Try.func24, Try.ntmps24
    go_wp2_with fail
    go_ret2
    exact ⟨rfl, new_alloc (new_refl w) _⟩
theorem own_below {w w1 : World} {base : Nat} {v : Value} {zs : List Int} (O : OwnB w base v zs) (B : Below w.heap.size w w1) : OwnB w1 base v zs := O.kept B
/-- Behind a call that made memory. -/
theorem GrowF.kept {w wr w2 : World} {b : Nat} {h : Hd} {v : Value} {zs : List Int} (G : GrowF w b h v zs wr) (B : Below wr.heap.size wr w2) : GrowF w b h v zs w2 := ⟨G.hd.kept B, G.own.kept B, G.far, new_then G.new B⟩
/-- Behind an append. -/
theorem GrowF.push {w wr w2 : World} {b : Nat} {h : Hd} {v v2 : Value} {zs zs2 : List Int} (G : GrowF w b h v zs wr) (O : OwnB w2 w.heap.size v2 zs2) (N : wr.grownBy w2 v.ownBlock) (hat : v2.ownBlock = v.ownBlock ∨ v2.ownBlock = some wr.heap.size) : GrowF w b h v2 zs2 w2 :=
  ⟨grown_at G.hd N fun e => G.far e.symm, O, more_far (more_grown O N hat) G.hd.1 G.far, G.new.trans (below_push G.own N G.new.size)⟩
theorem GrowF.two {w wr : World} {b i j : Nat} {h : Hd} {v x y : Value} {zs : List Int} (G : GrowF w b h v zs wr) (hi : (hdV h)[i]? = some x) (hj : (hdV h)[j]? = some y) : wr.cell? ⟨b, i, none⟩ = some x ∧ wr.cell? ⟨b, j, none⟩ = some y := ⟨G.hd.cell i hi, G.hd.cell j hj⟩
theorem GrowF.drew {w wr : World} {b : Nat} {h : Hd} {v : Value} {zs : List Int} (G : GrowF w b h v zs wr) : GrowF w b h v zs wr.drew := ⟨G.hd, G.own, G.far, new_drew G.new⟩
def EncI (w : World) (h : Hd) (zs : List Int) (n : Nat) (v : Value) (wx : World) : Prop := ∃ g c, v = .slice (some ⟨g, 0, none⟩) n c ∧ GrowF w w.heap.size h (.slice (some ⟨g, 0, none⟩) n c) zs wx
theorem enc_i {w wx : World} {h : Hd} {zs : List Int} {n : Nat} {v : Value} (G : GrowF w w.heap.size h v zs wx) (hn : zs.length = n) (h0 : 0 < n) : EncI w h zs n v wx := by
  obtain ⟨g, c, rfl, _, _⟩ := G.own.some hn h0
  exact ⟨g, c, rfl, G⟩
theorem grow_of {w W w2 : World} {h : Hd} {g n c : Nat} {zs : List Int} (A : At W w.heap.size (hdV h)) (L0 : Below w.heap.size w W) (O : OwnB w2 W.heap.size (.slice (some ⟨g, 0, none⟩) n c) zs) (B : Below W.heap.size W w2) : GrowF w w.heap.size h (.slice (some ⟨g, 0, none⟩) n c) zs w2 :=
  ⟨A.kept B, O.mono L0.size, by have := (ownLow O).1; have := A.1; simp [Value.ownBlock]; omega, new_then L0 B⟩
set_option maxRecDepth 100000 in
set_option maxHeartbeats 4000000 in
theorem refEncode_yes (h : Hd) (ok : HdOk h) (w : World) (hf : fitF h) :
    Calls Try.prog 24 #[.agg #[.int .u16 h.src, .int .u16 h.dst, .int .u32 h.seq, .int .u32 h.ack, .int .u8 h.off, .int .u8 h.ace, .int .u8 h.fl, .int .u16 h.win, .int .u16 h.sum, .int .u16 h.urg]] w (EncTo w h) := by
  have A := At.new w (hdV h) 27
  have L0 := new_alloc (new_refl w) (.cells #[.int .u16 h.src, .int .u16 h.dst, .int .u32 h.seq, .int .u32 h.ack, .int .u8 h.off, .int .u8 h.ace, .int .u8 h.fl, .int .u16 h.win, .int .u16 h.sum, .int .u16 h.urg] 27)
  have hb := A.1
  have OK := Lib.hid ok
  have HF := Lib.hid hf
  have d1 : ¬ h.off < 5 := by have := hf.1; omega
  have d2 : ¬ 15 < h.off := by have := hf.2.1; omega
  have d3 : ¬ 7 < h.ace := by have := hf.2.2.1; omega
  have d4 : ¬ 63 < h.fl := by have := hf.2.2.2; omega
  clear ok hf
  go_enter Try.func24, Try.ntmps24
  go_upto_region 3 with (fail)
  clear d1 d2 d3 d4
  generalize w.alloc (.cells #[.int .u16 h.src, .int .u16 h.dst, .int .u32 h.seq, .int .u32 h.ack, .int .u8 h.off, .int .u8 h.ace, .int .u8 h.fl, .int .u16 h.win, .int .u16 h.sum, .int .u16 h.urg] 27) = W at A L0 hb ⊢
  go_cut [4] (fun v wx => EncI w h (twoF h.src ++ twoF h.dst) 4 v wx)
  case first =>
    have c0 := A.cell 0 rfl
    have c1 := A.cell 1 rfl
    have K0 := OK.out.src
    have K1 := OK.out.dst
    have x0 : IntKind.u32.wrap h.src = h.src := by rw [IntKind.wrap_u32]; omega
    have x1 : IntKind.u32.wrap h.dst = h.dst := by rw [IntKind.wrap_u32]; omega
    have KA := Lib.hid K0
    have KB := Lib.hid K1
    clear K0 K1
    have q1 : Hid ((twoF h.src).length + (twoF h.dst).length ≤ 1000000000) := Lib.hid (show 2 + 2 ≤ 1000000000 by decide)
    go_region_held3 (fun w' => w'.cell? ⟨w.heap.size, 0, none⟩ = some (.int .u16 h.src) ∧ w'.cell? ⟨w.heap.size, 1, none⟩ = some (.int .u16 h.dst))
      (first | go_keep | exact two_low B3 hb (by assumption) | exact two_kept B2 (by assumption) | exact two_kept B1 (by assumption))
      (first
        | (go_at_call 46; have h := O1; clear h; refine (refPut2_any h.dst _ KB.out).mono ?_; rintro e w2 ⟨g2, k2, rfl, O2, B2⟩)
        | (go_at_call 46; refine (refPut2_any h.src _ KA.out).mono ?_; rintro e w1 ⟨g1, k1, rfl, O1, B1⟩)
        | (refine step_catK elB (o := ⟨some 31, _, _, _, _, _⟩) rfl _ _ rfl W.heap.size _ (twoF h.src) _ _ _ (twoF h.dst) rfl rfl O2.src (O1.kept B2) q1.out (new_then B1 B2).size _ rfl ?_
           intro v3 w3 O3 N3 hat3
           have B3 : Below W.heap.size w2 w3 := below_push (O1.kept B2) N3 (new_then B1 B2).size))
    all_goals
      go_wp2_with fail
      go_meet
      case rel => exact enc_i ((grow_of A L0 (O1.kept B2) (new_then (new_undrew B1) B2)).push (O3.mono L0.size) N3 hat3) rfl (by decide)
  case rest =>
    obtain ⟨g0, p0, rfl, G⟩ := hcut
    clear A L0 hb
    generalize wc = W at G ⊢
    go_upto_region 4 with (fail)
    go_cut [4] (fun v wx => EncI w h (twoF h.src ++ twoF h.dst ++ fourF h.seq ++ fourF h.ack) 12 v wx)
    case first =>
      have c0 := G.hd.cell 2 rfl
      have c1 := G.hd.cell 3 rfl
      have KA := Lib.hid OK.out.seq
      have KB := Lib.hid OK.out.ack
      have HG := Lib.hid G
      clear G
      have q1 : Hid ((twoF h.src ++ twoF h.dst).length + (fourF h.seq).length ≤ 1000000000) := Lib.hid (show 4 + 4 ≤ 1000000000 by decide)
      have q2 : Hid ((twoF h.src ++ twoF h.dst ++ fourF h.seq).length + (fourF h.ack).length ≤ 1000000000) := Lib.hid (show 8 + 4 ≤ 1000000000 by decide)
      go_region_held3 (fun w' => w'.cell? ⟨w.heap.size, 2, none⟩ = some (.int .u32 h.seq) ∧ w'.cell? ⟨w.heap.size, 3, none⟩ = some (.int .u32 h.ack))
        (first | go_keep | exact G5.two rfl rfl | exact G4.two rfl rfl | exact G3.two rfl rfl | exact G2.two rfl rfl)
        (first
          | (go_at_call 46; have h := G3; clear h; refine (refPut4_any h.ack _ KB.out).mono ?_; rintro e w4 ⟨g4, k4, rfl, O4, B4⟩; have G4 := G3.kept B4)
          | (go_at_call 46; refine (refPut4_any h.seq _ KA.out).mono ?_; rintro e w2 ⟨g2, k2, rfl, O2, B2⟩; have G2 := HG.out.kept (new_undrew B2))
          | (refine step_catK elB (o := ⟨some 40, _, _, _, _, _⟩) rfl _ _ rfl w.heap.size _ (twoF h.src ++ twoF h.dst ++ fourF h.seq) _ _ _ (fourF h.ack) rfl rfl O4.src G4.own q2.out G4.new.size _ rfl ?_
             intro v5 w5 O5 N5 hat5
             have G5 := G4.push O5 N5 hat5)
          | (refine step_catK elB (o := ⟨some 36, _, _, _, _, _⟩) rfl _ _ rfl w.heap.size _ (twoF h.src ++ twoF h.dst) _ _ _ (fourF h.seq) rfl rfl O2.src G2.own q1.out G2.new.size _ rfl ?_
             intro v3 w3 O3 N3 hat3
             have G3 := G2.push O3 N3 hat3))
      all_goals
        go_wp2_with fail
        go_meet
        case rel => exact enc_i G5 rfl (by decide)
    case rest =>
      clear G
      obtain ⟨g1, p1, rfl, G⟩ := hcut
      generalize wc = W1 at G ⊢
      have c4 := G.hd.cell 4 rfl
      have c5 := G.hd.cell 5 rfl
      have c6 := G.hd.cell 6 rfl
      have HG := Lib.hid G
      clear G
      obtain ⟨f1, f2, f3, f4⟩ := HF.out
      have o1 := OK.out.ace.1
      have o2 := OK.out.fl.1
      have e1 : h.ace.tdiv 4 = h.ace / 4 := Int.tdiv_eq_ediv_of_nonneg o1
      have e2 : IntKind.u8.wrap (h.ace / 4) = h.ace / 4 := by rw [IntKind.wrap_u8]; omega
      have e3 : IntKind.u8.wrap (h.off * 16) = h.off * 16 := by rw [IntKind.wrap_u8]; omega
      have e4 : IntKind.u8.wrap (h.ace % 4 * 64) = h.ace % 4 * 64 := by rw [IntKind.wrap_u8]; omega
      have e5 : IntKind.u8.wrap (h.off * 16 + h.ace / 4) = h.off * 16 + h.ace / 4 := by rw [IntKind.wrap_u8]; omega
      have e6 : IntKind.u8.wrap (h.ace % 4 * 64 + h.fl) = h.ace % 4 * 64 + h.fl := by rw [IntKind.wrap_u8]; omega
      have q3 : Hid ((twoF h.src ++ twoF h.dst ++ fourF h.seq ++ fourF h.ack).length + [h.off * 16 + h.ace / 4, h.ace % 4 * 64 + h.fl].length ≤ 1000000000) := Lib.hid (show 12 + 2 ≤ 1000000000 by decide)
      go_upto_region 6 with (first
        | (at_builtin; refine wp_catK elB (by rfl) _ _ (by rfl) w.heap.size _ (twoF h.src ++ twoF h.dst ++ fourF h.seq ++ fourF h.ack) _ 2 2 [h.off * 16 + h.ace / 4, h.ace % 4 * 64 + h.fl] (by rfl) (by rfl) (two_src (At.new W1 [.int .u8 (h.off * 16 + h.ace / 4), .int .u8 (h.ace % 4 * 64 + h.fl)] _)) (HG.out.own.alloc _) q3.out (alloc_le HG.out.new.size _) ?_; intro v4 w4 O4 N4 hat4))
      clear c4 c5 c6 e1 e2 e3 e4 e5 e6 o1 o2 f1 f2 f3 f4
      have G := HG.out.more (more_grown O4 N4 hat4)
      obtain ⟨g2, p2, rfl, _, _⟩ := G.own.some (n := 14) rfl (by decide)
      clear O4 N4 hat4 HG
      generalize hzs : twoF h.src ++ twoF h.dst ++ fourF h.seq ++ fourF h.ack ++ [h.off * 16 + h.ace / 4, h.ace % 4 * 64 + h.fl] = zs at G
      have HZ := Lib.hid hzs
      clear hzs
      go_cut [4] (fun v wx => EncI w h (zs ++ twoF h.win ++ twoF h.sum) 18 v wx)
      case first =>
        have c0 := G.hd.cell 7 rfl
        have c1 := G.hd.cell 8 rfl
        have K0 := OK.out.win
        have K1 := OK.out.sum
        have x0 : IntKind.u32.wrap h.win = h.win := by rw [IntKind.wrap_u32]; omega
        have x1 : IntKind.u32.wrap h.sum = h.sum := by rw [IntKind.wrap_u32]; omega
        have KA := Lib.hid K0
        have KB := Lib.hid K1
        clear K0 K1
        have HG := Lib.hid G
        clear G
        have q1 : Hid (zs.length + (twoF h.win).length ≤ 1000000000) := Lib.hid (by rw [← HZ.out]; exact (show 14 + 2 ≤ 1000000000 by decide))
        have q2 : Hid ((zs ++ twoF h.win).length + (twoF h.sum).length ≤ 1000000000) := Lib.hid (by rw [← HZ.out]; exact (show 16 + 2 ≤ 1000000000 by decide))
        go_region_held3 (fun w' => w'.cell? ⟨w.heap.size, 7, none⟩ = some (.int .u16 h.win) ∧ w'.cell? ⟨w.heap.size, 8, none⟩ = some (.int .u16 h.sum))
          (first | go_keep | exact G5.two rfl rfl | exact G4.two rfl rfl | exact G3.two rfl rfl | exact G2.two rfl rfl)
          (first
            | (go_at_call 46; have h := G3; clear h; refine (refPut2_any h.sum _ KB.out).mono ?_; rintro e w4 ⟨g4, k4, rfl, O4, B4⟩; have G4 := G3.kept B4)
            | (go_at_call 46; refine (refPut2_any h.win _ KA.out).mono ?_; rintro e w2 ⟨g2, k2, rfl, O2, B2⟩; have G2 := HG.out.kept (new_undrew B2))
            | (refine step_catK elB (o := ⟨some 68, _, _, _, _, _⟩) rfl _ _ rfl w.heap.size _ (zs ++ twoF h.win) _ _ _ (twoF h.sum) rfl rfl O4.src G4.own q2.out G4.new.size _ rfl ?_
               intro v5 w5 O5 N5 hat5
               have G5 := G4.push O5 N5 hat5)
            | (refine step_catK elB (o := ⟨some 63, _, _, _, _, _⟩) rfl _ _ rfl w.heap.size _ zs _ _ _ (twoF h.win) rfl rfl O2.src G2.own q1.out G2.new.size _ rfl ?_
               intro v3 w3 O3 N3 hat3
               have G3 := G2.push O3 N3 hat3))
        all_goals
          go_wp2_with fail
          go_meet
          case rel => exact enc_i G5 (by rw [← HZ.out]; rfl) (by decide)
      case rest =>
        clear G
        obtain ⟨g3, p3, rfl, G⟩ := hcut
        generalize wc = W2 at G ⊢
        have c9 := G.hd.cell 9 rfl
        have HG := Lib.hid G
        clear G
        have K0 := OK.out.urg
        have x0 : IntKind.u32.wrap h.urg = h.urg := by rw [IntKind.wrap_u32]; omega
        have KA := Lib.hid K0
        clear K0
        have q1 : Hid ((zs ++ twoF h.win ++ twoF h.sum).length + (twoF h.urg).length ≤ 1000000000) := Lib.hid (by rw [← HZ.out]; exact (show 18 + 2 ≤ 1000000000 by decide))
        go_wp2_with (first
          | (go_at_call 46; refine (refPut2_any h.urg _ KA.out).mono ?_; rintro e w2 ⟨g2, k2, rfl, O2, B2⟩; have G2 := HG.out.kept B2)
          | (at_builtin; refine wp_catK elB (by rfl) _ _ (by rfl) w.heap.size _ (zs ++ twoF h.win ++ twoF h.sum) _ _ _ (twoF h.urg) (by rfl) (by rfl) O2.src G2.own q1.out G2.new.size ?_; intro v4 w4 O4 N4 hat4; have G4 := G2.push O4 N4 hat4))
        have ez : zs ++ twoF h.win ++ twoF h.sum ++ twoF h.urg = hdF h := by rw [← HZ.out]; rfl
        rw [ez] at G4
        obtain ⟨g5, k5, rfl, _, _⟩ := G4.own.some (n := 20) rfl (by decide)
        go_ret2
        exact ⟨g5, k5, rfl, G4.own, G4.new⟩

def exH : Hd := ⟨0, 0, 0, 0, 5, 5, 2, 0, 0, 0⟩
theorem exH_ok : HdOk exH := by constructor <;> exact ⟨by decide, by decide⟩
theorem exH_fit : fitF exH := ⟨by decide, by decide, by decide, by decide⟩

/-- A list that is this text, and an error. -/
def EncT (w : World) (T : ByteArray) (q : Int) (e : Ending) (w' : World) : Prop :=
  ∃ x, e = .returned (.tuple #[x, .int .i64 q]) ∧ (∀ w2, Below w'.heap.size w' w2 → (convert 32 9 x).run Try.prog w2 = .ok (.string T) w2) ∧ Below w.heap.size w w'
theorem EncTo.txt {w w' : World} {h : Hd} {e : Ending} (k : EncTo w h e w') : EncT w (strOfNums (hdF h)) 0 e w' := by
  obtain ⟨g, c, rfl, O, B⟩ := k
  exact ⟨_, rfl, fun w2 B2 => text_own (O.kept B2), B⟩
theorem encs_same (h : Hd) (ok : HdOk h) : ∃ T q, ∀ w, Calls Try.prog 38 #[.agg #[.int .u16 h.src, .int .u16 h.dst, .int .u32 h.seq, .int .u32 h.ack, .int .u8 h.off, .int .u8 h.ace, .int .u8 h.fl, .int .u16 h.win, .int .u16 h.sum, .int .u16 h.urg]] w (EncT w T q) ∧ Calls Try.prog 24 #[.agg #[.int .u16 h.src, .int .u16 h.dst, .int .u32 h.seq, .int .u32 h.ack, .int .u8 h.off, .int .u8 h.ace, .int .u8 h.fl, .int .u16 h.win, .int .u16 h.sum, .int .u16 h.urg]] w (EncT w T q) := by
  by_cases hf : fitF h
  · refine ⟨strOfNums (hdF h), 0, fun w => ⟨?_, ?_⟩⟩
    · exact (encode_yes h ok w hf).mono fun e w2 k => k.txt
    · exact (refEncode_yes h ok w hf).mono fun e w2 k => k.txt
  · refine ⟨ByteArray.empty, 2, fun w => ⟨?_, ?_⟩⟩
    · exact (encode_no h ok w hf).mono fun e w2 ⟨he, B⟩ => ⟨_, he, fun w2 _ => textNil w2, B⟩
    · exact (refEncode_no h ok w hf).mono fun e w2 ⟨he, B⟩ => ⟨_, he, fun w2 _ => textNil w2, B⟩
end Go.Proofs.Ytnkcnfkonifmhaa
