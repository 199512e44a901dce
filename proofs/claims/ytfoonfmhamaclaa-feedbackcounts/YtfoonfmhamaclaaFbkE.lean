/- Package feedback: Take, of an acknowledgement that is taken. -/
import Derived.Test.YtfoonfmhamaclaaFbkD
namespace Go.Proofs.Ytfoonfmhamaclaa
open Go.ChangeShapes Go.WideShapes Go.ChangeAt Go.RowKit
set_option linter.unusedVariables false

set_option maxHeartbeats 4000000 in
theorem take19_yes (b n : Nat) (s : Sn) (a : Ak) (w : World) (h : SnB w b s) (hs : OkS n s) (ha : OkA a) (hw : wrK a = false) (hf : frK s a = true) (hN : n < 100) (hn : nwR a.s s.x s.t = true) :
    Calls Try.prog 8 #[.pointer (some ⟨b, 0, none⟩), .agg #[.int .i64 a.u, .int .u32 a.s, .int .u8 a.c, .int .i64 a.t0, .int .i64 a.t1, .int .i64 a.t2]] w (TkS w b (nxK s a - s.m) 0 (tnK s a)) := by
  have C := Lib.hid (fun w => wrong_any a w)
  rw [hw] at C
  have F := fun w => fresh17_any s.f0 s.f1 s.f2 a.t0 a.t1 a.t2 w
  rw [show (frF s.f0 a.t0 && frF s.f1 a.t1 && frF s.f2 a.t2) = true from hf] at F
  replace F := Lib.hid F
  have T := fun w h => takeE b a.s s w h ha.s hs.x (by have := hs.t; have := hs.few; omega) (by have := hs.p; have := hs.few; omega)
  rw [fiE_yes hn, hn] at T
  replace T := Lib.hid T
  have NX := Lib.hid (fun w h => next_any b (n + 1) ⟨a.s, s.t + 1, s.p, s.mss, s.m, s.ba, s.f0, s.f1, s.f2⟩ a w h (ok_fil hs ha hN) ha)
  have hb := nx_bd hs a
  have hm := hs.m
  have i0 := hs.f0; have i1 := hs.f1; have i2 := hs.f2
  have FO := Lib.hid (fun w => follow17_any s.f0 s.f1 s.f2 a.t0 a.t1 a.t2 w (by unfold int64F; omega) (by unfold int64F; omega) (by unfold int64F; omega))
  have SU := fun w => satSub_any (nxK s a) s.m w (by omega) (by omega)
  rw [sat64_id (by omega)] at SU
  replace SU := Lib.hid SU
  have CE := Lib.hid (fun w => ce_any a w)
  have E9 : Hid (tnK s a = ⟨a.s, s.t + 1, s.p, s.mss, nxK s a, if a.t1 = -1 then s.ba else nxK s a, foF s.f0 a.t0, foF s.f1 a.t1, foF s.f2 a.t2⟩) := Lib.hid rfl
  rw [E9.out]
  have E8 : Hid (nxK ⟨a.s, s.t + 1, s.p, s.mss, s.m, s.ba, s.f0, s.f1, s.f2⟩ a = nxK s a) := Lib.hid rfl
  rw [E8.out] at NX
  clear i0 i1 i2 hm hb E9 E8
  generalize nxK s a = N at *
  generalize foF s.f0 a.t0 = n0 at *
  generalize foF s.f1 a.t1 = n1 at *
  generalize foF s.f2 a.t2 = n2 at *
  have S := Lib.hid (ak_new w a)
  have H := Lib.hid (sn_alloc h a)
  have hne : w.heap.size ≠ b := by have := Blk.lt h; omega
  have L := Lib.hid ((Out.refl (fun j => j = b) w).alloc (.cells #[.int .i64 a.u, .int .u32 a.s, .int .u8 a.c, .int .i64 a.t0, .int .i64 a.t1, .int .i64 a.t2] 31))
  clear h hw hf hn hs ha
  unfold TkS
  go_enter Try.func8, Try.ntmps8
  go_upto_region 3 with (fail)
  generalize w.alloc (.cells #[.int .i64 a.u, .int .u32 a.s, .int .u8 a.c, .int .i64 a.t0, .int .i64 a.t1, .int .i64 a.t2] 31) = W at *
  have c0 := S.out.cell 0 rfl
  have c1 := S.out.cell 1 rfl
  have c2 := S.out.cell 2 rfl
  have c3 := S.out.cell 3 rfl
  have c4 := S.out.cell 4 rfl
  have c5 := S.out.cell 5 rfl
  go_upto_region 5 with (first
    | (go_at_call 17; refine (C.out _).mono ?_; rintro e w1 ⟨rfl, B1⟩
       have H1 := Lib.hid (Blk.kept H.out B1)
       have S1 := Lib.hid (S.out.kept B1)
       have L1 := Lib.hid (L.out.new B1)
       clear c0 c1 c2 c3 c4 c5 H S L B1))
  have Z := se_of (Blk.drew H1.out) S1.out.drew
  go_region_held3 (fun w' => w'.cell? ⟨b, 6, none⟩ = some (.int .i64 s.f0) ∧ w'.cell? ⟨b, 7, none⟩ = some (.int .i64 s.f1) ∧ w'.cell? ⟨b, 8, none⟩ = some (.int .i64 s.f2) ∧ w'.cell? ⟨w.heap.size, 1, none⟩ = some (.int .u32 a.s) ∧ w'.cell? ⟨w.heap.size, 3, none⟩ = some (.int .i64 a.t0) ∧ w'.cell? ⟨w.heap.size, 4, none⟩ = some (.int .i64 a.t1) ∧ w'.cell? ⟨w.heap.size, 5, none⟩ = some (.int .i64 a.t2))
    (first | exact Z | exact se_of (Blk.kept H1.out (new_undrew B2)) (S1.out.kept (new_undrew B2)) | exact se_fil N3 (Blk.out (S1.out.kept (new_undrew B2)) O3 hne))
    (first
      | (go_at_call 18; refine (F.out _).mono ?_; rintro e w2 ⟨rfl, B2⟩)
      | (go_at_call 19; refine (T.out _ (Blk.kept H1.out (new_undrew B2))).mono ?_; rintro e w3 ⟨rfl, O3, N3⟩))
  all_goals
    have K3 := Lib.hid (Blk.out (S1.out.kept (new_undrew B2)) O3 hne)
    have O4 := Lib.hid ((L1.out.new (new_undrew B2)).trans O3 (fun _ _ h => h))
    have HN := Lib.hid N3
    clear Z H1 S1 L1 B2 O3 T F C N3
    have m4 := Blk.cell HN.out 4 rfl
    have c0 := K3.out.cell 0 rfl
    have c1 := K3.out.cell 1 rfl
    have c2 := K3.out.cell 2 rfl
    have c3 := K3.out.cell 3 rfl
    have c4 := K3.out.cell 4 rfl
    have c5 := K3.out.cell 5 rfl
    go_upto_region 9 with (first
      | (go_at_call 20; refine (NX.out _ HN.out).mono ?_; rintro e w4 ⟨rfl, B4⟩
         have K4 := Blk.kept HN.out B4
         have k4 := K4.cell 4 rfl
         have g4 := K4.frozen 4
         have K5 := Lib.hid (K4.set 4 (.int .i64 N))
         have A5 := Lib.hid ((K3.out.kept B4).far (p := ⟨b, 4, none⟩) hne (.int .i64 N))
         have O5 := Lib.hid ((O4.out.new B4).set (p := ⟨b, 4, none⟩) (.inl rfl) (.int .i64 N))
         clear K4 c0 c1 c2 c3 c4 c5 m4))
    clear B4 k4 g4 NX HN K3 O4
    generalize w4.setCell ⟨b, 4, none⟩ (.int .i64 N) = W5 at *
    have k6 := K5.out.cell 6 rfl
    have k7 := K5.out.cell 7 rfl
    have k8 := K5.out.cell 8 rfl
    have c3 := A5.out.cell 3 rfl
    have c4 := A5.out.cell 4 rfl
    have c5 := A5.out.cell 5 rfl
    go_region_with (first
      | (go_at_call 21; refine (FO.out _).mono ?_; rintro e w6 ⟨rfl, B6⟩
         replace B6 := new_undrew B6
         have K6 := K5.out.kept B6
         have l6 := K6.cell 6 rfl
         have l7 := K6.cell 7 rfl
         have l8 := K6.cell 8 rfl
         have g6 := K6.frozen 6
         have g7 := K6.frozen 7
         have g8 := K6.frozen 8))
    all_goals
      have K7 := Lib.hid ((((K5.out.kept B6).set 6 (.int .i64 n0)).set 7 (.int .i64 n1)).set 8 (.int .i64 n2))
      have A7 := Lib.hid ((((A5.out.kept B6).far (p := ⟨b, 6, none⟩) hne (.int .i64 n0)).far (p := ⟨b, 7, none⟩) hne (.int .i64 n1)).far (p := ⟨b, 8, none⟩) hne (.int .i64 n2))
      have O7 := Lib.hid ((((O5.out.new B6).set (p := ⟨b, 6, none⟩) (.inl rfl) (.int .i64 n0)).set (p := ⟨b, 7, none⟩) (.inl rfl) (.int .i64 n1)).set (p := ⟨b, 8, none⟩) (.inl rfl) (.int .i64 n2))
      clear k6 k7 k8 c3 c4 c5 K5 A5 O5 B6 K6 l6 l7 l8 g6 g7 g8 FO
      generalize (((w6.setCell ⟨b, 6, none⟩ (.int .i64 n0)).setCell ⟨b, 7, none⟩ (.int .i64 n1)).setCell ⟨b, 8, none⟩ (.int .i64 n2)) = W7 at *
      have c0 := A7.out.cell 0 rfl
      have c1 := A7.out.cell 1 rfl
      have c2 := A7.out.cell 2 rfl
      have c3 := A7.out.cell 3 rfl
      have c4 := A7.out.cell 4 rfl
      have c5 := A7.out.cell 5 rfl
      by_cases ht : a.t1 = -1
      · have HT := Lib.hid ht
        rw [show (a.t1 != -1) = false by rw [ht]; rfl] at CE
        clear ht
        go_wp2_with (first
          | (go_at_call 22; refine (CE.out _).mono ?_; rintro e w8 ⟨rfl, B8⟩
             have m4 := (K7.out.kept B8).cell 4 rfl
             clear c0 c1 c2 c3 c4 c5)
          | (go_at_call 23; refine (SU.out _).mono ?_; rintro e w9 ⟨rfl, rfl⟩))
        refine bodyPost_ret (v := .tuple #[.int .i64 (N - s.m), .int .i64 0]) (by simp [results, Try.results8, go_sem]) rfl ⟨rfl, O7.out.new B8, ?_⟩
        exact K7.out.kept B8
      · have HT := Lib.hid ht
        rw [show (a.t1 != -1) = true by simpa using ht] at CE
        clear ht
        go_wp2_with (first
          | (go_at_call 22; refine (CE.out _).mono ?_; rintro e w8 ⟨rfl, B8⟩
             have K8 := K7.out.kept B8
             have m4 := K8.cell 4 rfl
             have m5 := K8.cell 5 rfl
             have g5 := K8.frozen 5
             have K9 := Lib.hid (K8.set 5 (.int .i64 N))
             have n4 := K9.out.cell 4 rfl
             clear c0 c1 c2 c3 c4 c5 K8)
          | (go_at_call 23; refine (SU.out _).mono ?_; rintro e w9 ⟨rfl, rfl⟩))
        refine bodyPost_ret (v := .tuple #[.int .i64 (N - s.m), .int .i64 0]) (by simp [results, Try.results8, go_sem]) rfl ⟨rfl, (O7.out.new B8).set (p := ⟨b, 5, none⟩) (.inl rfl) (.int .i64 N), ?_⟩
        exact K9.out
theorem take19_any (b n : Nat) (s : Sn) (a : Ak) (w : World) (h : SnB w b s) (hs : OkS n s) (ha : OkA a) (hN : n < 100) :
    Calls Try.prog 8 #[.pointer (some ⟨b, 0, none⟩), .agg #[.int .i64 a.u, .int .u32 a.s, .int .u8 a.c, .int .i64 a.t0, .int .i64 a.t1, .int .i64 a.t2]] w (TkS w b ((tkK s a).m - s.m) (erK s a) (tkK s a)) := by
  unfold tkK erK
  by_cases h1 : wrK a = true
  · rw [if_pos h1, if_pos h1, Int.sub_self]; exact take19_wr b n s a w h h1
  · rw [if_neg h1, if_neg h1]
    have h1 : wrK a = false := by simpa using h1
    by_cases h2 : frK s a = false
    · rw [if_pos h2, if_pos h2, Int.sub_self]; exact take19_old b n s a w h h1 h2
    · rw [if_neg h2, if_neg h2]
      have h2 : frK s a = true := by simpa using h2
      by_cases h3 : nwR a.s s.x s.t = true
      · rw [if_pos h3, if_pos h3]; exact take19_yes b n s a w h hs ha h1 h2 hN h3
      · rw [if_neg h3, if_neg h3, Int.sub_self]; exact take19_not b n s a w h hs ha h1 h2 (by simpa using h3)
end Go.Proofs.Ytfoonfmhamaclaa
