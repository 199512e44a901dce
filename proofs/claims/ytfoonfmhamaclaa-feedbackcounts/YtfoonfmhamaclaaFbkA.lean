/- Package feedback: tellsCe, isWrong, sinceBase, next. -/
import Derived.Test.YtfoonfmhamaclaaFbkM
import Derived.Test.YtfoonfmhamaclaaSatE
namespace Go.Proofs.Ytfoonfmhamaclaa
open Go.ChangeShapes Go.WideShapes Go.ChangeAt Go.RowKit
set_option linter.unusedVariables false

/-- A sender at block b. -/
def SnB (w : World) (b : Nat) (s : Sn) : Prop := Blk w b (snV s) 60
theorem keptF3 {W w1 : World} {p q r : Addr} {a b c : Value} (hb : Below W.heap.size W w1) (h : W.cell? p = some a ∧ W.cell? q = some b ∧ W.cell? r = some c) :
    w1.cell? p = some a ∧ w1.cell? q = some b ∧ w1.cell? r = some c := ⟨cell_kept hb h.1, cell_kept hb h.2.1, cell_kept hb h.2.2⟩
theorem ak_new (w : World) (a : Ak) : Blk (w.alloc (.cells #[.int .i64 a.u, .int .u32 a.s, .int .u8 a.c, .int .i64 a.t0, .int .i64 a.t1, .int .i64 a.t2] 31)) w.heap.size (akV a) 31 := Blk.new w (akV a) _
theorem sn_alloc {w : World} {b : Nat} {s : Sn} (h : SnB w b s) (a : Ak) : SnB (w.alloc (.cells #[.int .i64 a.u, .int .u32 a.s, .int .u8 a.c, .int .i64 a.t0, .int .i64 a.t1, .int .i64 a.t2] 31)) b s := Blk.alloc h _
theorem ce_any (a : Ak) (w : World) :
    Calls Try.prog 22 #[.agg #[.int .i64 a.u, .int .u32 a.s, .int .u8 a.c, .int .i64 a.t0, .int .i64 a.t1, .int .i64 a.t2]] w fun e w' => e = .returned (.bool (a.t1 != -1)) ∧ Below w.heap.size w w' := by
  have c4 := (Blk.new w (akV a) 31).cell 4 rfl
  go_enter Try.func22, Try.ntmps22
  go_wp2_with fail
  go_ret
  exact ⟨rfl, new_alloc (new_refl w) _⟩
def wrP (a : Ak) : Nat → Bool
  | 0 => false
  | 1 => wrF a.t0
  | 2 => wrF a.t0 || wrF a.t1
  | _ => wrF a.t0 || wrF a.t1 || wrF a.t2
def WroI (w : World) (a : Ak) (gh : Nat) (v : Value) (wr : World) : Prop :=
  ∃ k : Nat, v = .int .i64 (k : Int) ∧ 3 - k = gh ∧ k ≤ 3 ∧ wrP a k = false ∧ Blk wr w.heap.size (akV a) 31 ∧ Below w.heap.size w wr
theorem wr_way (t : Int) : (t < -1 ∧ wrF t = true) ∨ (-1 ≤ t ∧ 16777215 < t ∧ wrF t = true) ∨ (-1 ≤ t ∧ t ≤ 16777215 ∧ wrF t = false) := by
  unfold wrF
  by_cases h : t < -1
  · exact .inl ⟨h, by simp; omega⟩
  · by_cases h2 : 16777215 < t
    · exact .inr (.inl ⟨by omega, h2, by simp; omega⟩)
    · exact .inr (.inr ⟨by omega, by omega, by simp; omega⟩)
set_option maxHeartbeats 1000000 in
theorem wrong_any (a : Ak) (w : World) :
    Calls Try.prog 17 #[.agg #[.int .i64 a.u, .int .u32 a.s, .int .u8 a.c, .int .i64 a.t0, .int .i64 a.t1, .int .i64 a.t2]] w fun e w' => e = .returned (.bool (wrK a)) ∧ Below w.heap.size w w' := by
  have S := Lib.hid (Blk.new w (akV a) 31)
  have c3 := S.out.cell 3 rfl
  have c4 := S.out.cell 4 rfl
  have c5 := S.out.cell 5 rfl
  have W0 := Lib.hid (wr_way a.t0)
  have W1 := Lib.hid (wr_way a.t1)
  have W2 := Lib.hid (wr_way a.t2)
  have H0 := Lib.hid (show wrP a 1 = wrF a.t0 from rfl)
  have HK : Hid (wrK a = (wrP a 3 || decide (7 < a.c))) := Lib.hid rfl
  rw [HK.out]
  go_enter Try.func17, Try.ntmps17
  go_wp2_with fail
  go_loopg [7] 3 (fun gh v wr => WroI w a gh v wr)
  case atStart => exact ⟨0, rfl, rfl, by omega, rfl, S.out, new_alloc (new_refl w) _⟩
  case round =>
    clear S c3 c4 c5
    obtain ⟨k, rfl, rfl, hk, hf, C, B⟩ := hrel
    have HF := Lib.hid hf
    have HC := Lib.hid C
    have c2 := C.cell 2 rfl
    clear C hf
    have x0 := idxF0 a.t0 a.t1 a.t2
    have x1 := idxF1 a.t0 a.t1 a.t2
    have x2 := idxF2 a.t0 a.t1 a.t2
    obtain rfl | rfl | rfl | rfl : k = 0 ∨ k = 1 ∨ k = 2 ∨ k = 3 := by omega
    · rcases W0.out with ⟨q1, q2⟩ | ⟨q1, q2, q3⟩ | ⟨q1, q2, q3⟩
      · have HQ := Lib.hid q2
        clear q2
        go_wp2_with fail
        go_ret
        exact ⟨ret_bool (by have b := HQ.out; simp [wrP, b]), B⟩
      · have HQ := Lib.hid q3
        clear q3
        go_wp2_with fail
        go_ret
        exact ⟨ret_bool (by have b := HQ.out; simp [wrP, b]), B⟩
      · have HQ := Lib.hid q3
        clear q3
        go_wp2_with fail
        go_roundg (3 - (0 + 1))
        case measure => omega
        case rel => exact ⟨0 + 1, by go_num, rfl, by omega, by have b := HQ.out; simp [wrP, b], HC.out, B⟩
    · rcases W1.out with ⟨q1, q2⟩ | ⟨q1, q2, q3⟩ | ⟨q1, q2, q3⟩
      · have HQ := Lib.hid q2
        clear q2
        go_wp2_with fail
        go_ret
        exact ⟨ret_bool (by have b := HQ.out; simp [wrP, b]), B⟩
      · have HQ := Lib.hid q3
        clear q3
        go_wp2_with fail
        go_ret
        exact ⟨ret_bool (by have b := HQ.out; simp [wrP, b]), B⟩
      · have HQ := Lib.hid q3
        clear q3
        go_wp2_with fail
        go_roundg (3 - (1 + 1))
        case measure => omega
        case rel => exact ⟨1 + 1, by go_num, rfl, by omega, by have a1 := HF.out; have b := HQ.out; simp_all [wrP], HC.out, B⟩
    · rcases W2.out with ⟨q1, q2⟩ | ⟨q1, q2, q3⟩ | ⟨q1, q2, q3⟩
      · have HQ := Lib.hid q2
        clear q2
        go_wp2_with fail
        go_ret
        exact ⟨ret_bool (by have b := HQ.out; simp [wrP, b]), B⟩
      · have HQ := Lib.hid q3
        clear q3
        go_wp2_with fail
        go_ret
        exact ⟨ret_bool (by have b := HQ.out; simp [wrP, b]), B⟩
      · have HQ := Lib.hid q3
        clear q3
        go_wp2_with fail
        go_roundg (3 - (2 + 1))
        case measure => omega
        case rel => exact ⟨2 + 1, by go_num, rfl, by omega, by have a1 := HF.out; have b := HQ.out; simp_all [wrP], HC.out, B⟩
    · go_wp2_with fail
      go_ret
      exact ⟨ret_bool (by have a1 := HF.out; simp [a1]), B⟩
set_option maxHeartbeats 1000000 in
theorem since_any (b n : Nat) (s : Sn) (a : Ak) (w : World) (h : SnB w b s) (hs : OkS n s) (ha : OkA a) :
    Calls Try.prog 35 #[.pointer (some ⟨b, 0, none⟩), .agg #[.int .i64 a.u, .int .u32 a.s, .int .u8 a.c, .int .i64 a.t0, .int .i64 a.t1, .int .i64 a.t2]] w fun e w' => e = .returned (.int .i64 (gueA s.ba a.c (stF s.f1 a.t1) s.mss)) ∧ Below w.heap.size w w' := by
  have hb := stF_bd s.f1 a.t1
  have S := Lib.hid (ak_new w a)
  have H := Lib.hid (sn_alloc h a)
  have G := Lib.hid (fun w => guess16_any s.ba a.c (stF s.f1 a.t1) s.mss w ha.c (by omega) hs.mss)
  have c4 := S.out.cell 4 rfl
  have d7 := H.out.cell 7 rfl
  clear hs ha h hb
  generalize gueA s.ba a.c (stF s.f1 a.t1) s.mss = r at *
  have L := Lib.hid (new_alloc (new_refl w) (.cells #[.int .i64 a.u, .int .u32 a.s, .int .u8 a.c, .int .i64 a.t0, .int .i64 a.t1, .int .i64 a.t2] 31))
  go_enter Try.func35, Try.ntmps35
  go_upto_region 1 with (fail)
  generalize w.alloc (.cells #[.int .i64 a.u, .int .u32 a.s, .int .u8 a.c, .int .i64 a.t0, .int .i64 a.t1, .int .i64 a.t2] 31) = W at *
  go_region_held3 (fun w' => w'.cell? ⟨b, 7, none⟩ = some (.int .i64 s.f1) ∧ w'.cell? ⟨w.heap.size, 4, none⟩ = some (.int .i64 a.t1))
    (first | exact two_kept B1 (by assumption) | exact two_kept B1 ⟨by assumption, by assumption⟩ | go_keep)
    (first | (go_at_call 38; refine (step17_any _ _ _).mono ?_; rintro e w1 ⟨rfl, B1⟩))
  all_goals
    replace B1 := new_undrew B1
    have c2 := (S.out.kept B1).cell 2 rfl
    have d5 := (Blk.kept H.out B1).cell 5 rfl
    have d3 := (Blk.kept H.out B1).cell 3 rfl
    clear c4 d7
    go_upto_region 2 with (fail)
    go_region_held3 (fun w' => w'.cell? ⟨b, 5, none⟩ = some (.int .i64 s.ba) ∧ w'.cell? ⟨w.heap.size, 2, none⟩ = some (.int .u8 a.c) ∧ w'.cell? ⟨b, 3, none⟩ = some (.int .i64 s.mss))
      (first | exact keptF3 B2 (by assumption) | exact keptF3 B2 ⟨by assumption, by assumption, by assumption⟩ | go_keep)
      (first | (go_at_call 45; refine (G.out _).mono ?_; rintro e w2 ⟨rfl, B2⟩))
    all_goals
      replace B2 := new_undrew B2
      go_wp2_with fail
      go_ret
      exact ⟨rfl, new_then (new_then L.out B1) B2⟩
theorem sat64_id {x : Int} (h : -9223372036854775808 ≤ x ∧ x ≤ 9223372036854775807) : sat64 x = x := by unfold sat64; split <;> (try split) <;> omega
theorem sl_of {w' : World} {b g : Nat} {s : Sn} {a : Ak} (h : SnB w' b s) (k : Blk w' g (akV a) 31) : SnB w' b s ∧ Blk w' g (akV a) 31 ∧ w'.cell? ⟨b, 5, none⟩ = some (.int .i64 s.ba) ∧ w'.cell? ⟨g, 0, none⟩ = some (.int .i64 a.u) ∧ w'.cell? ⟨g, 1, none⟩ = some (.int .u32 a.s) ∧ w'.cell? ⟨g, 2, none⟩ = some (.int .u8 a.c) ∧ w'.cell? ⟨g, 3, none⟩ = some (.int .i64 a.t0) ∧ w'.cell? ⟨g, 4, none⟩ = some (.int .i64 a.t1) ∧ w'.cell? ⟨g, 5, none⟩ = some (.int .i64 a.t2) :=
  ⟨h, k, Blk.cell h 5 rfl, k.cell 0 rfl, k.cell 1 rfl, k.cell 2 rfl, k.cell 3 rfl, k.cell 4 rfl, k.cell 5 rfl⟩
theorem sl_kept {w w' : World} {b g : Nat} {s : Sn} {a : Ak} (o : Below w.heap.size w w') (h : SnB w b s) (k : Blk w g (akV a) 31) : SnB w' b s ∧ Blk w' g (akV a) 31 ∧ w'.cell? ⟨b, 5, none⟩ = some (.int .i64 s.ba) ∧ w'.cell? ⟨g, 0, none⟩ = some (.int .i64 a.u) ∧ w'.cell? ⟨g, 1, none⟩ = some (.int .u32 a.s) ∧ w'.cell? ⟨g, 2, none⟩ = some (.int .u8 a.c) ∧ w'.cell? ⟨g, 3, none⟩ = some (.int .i64 a.t0) ∧ w'.cell? ⟨g, 4, none⟩ = some (.int .i64 a.t1) ∧ w'.cell? ⟨g, 5, none⟩ = some (.int .i64 a.t2) := sl_of (Blk.kept h o) (k.kept o)
theorem sl_keptC {w w' : World} {b g : Nat} {s : Sn} {a : Ak} {Z : Prop} (o : Below w.heap.size w w') (h : SnB w b s ∧ Blk w g (akV a) 31 ∧ Z) : SnB w' b s ∧ Blk w' g (akV a) 31 ∧ w'.cell? ⟨b, 5, none⟩ = some (.int .i64 s.ba) ∧ w'.cell? ⟨g, 0, none⟩ = some (.int .i64 a.u) ∧ w'.cell? ⟨g, 1, none⟩ = some (.int .u32 a.s) ∧ w'.cell? ⟨g, 2, none⟩ = some (.int .u8 a.c) ∧ w'.cell? ⟨g, 3, none⟩ = some (.int .i64 a.t0) ∧ w'.cell? ⟨g, 4, none⟩ = some (.int .i64 a.t1) ∧ w'.cell? ⟨g, 5, none⟩ = some (.int .i64 a.t2) := sl_kept o h.1 h.2.1
set_option maxHeartbeats 1000000 in
theorem next_any (b n : Nat) (s : Sn) (a : Ak) (w : World) (h : SnB w b s) (hs : OkS n s) (ha : OkA a) :
    Calls Try.prog 20 #[.pointer (some ⟨b, 0, none⟩), .agg #[.int .i64 a.u, .int .u32 a.s, .int .u8 a.c, .int .i64 a.t0, .int .i64 a.t1, .int .i64 a.t2]] w fun e w' => e = .returned (.int .i64 (nxK s a)) ∧ Below w.heap.size w w' := by
  have g1 := stpA_bd s.m a.c
  have g2 := gue_bd s.ba a.c (stF s.f1 a.t1) s.mss
  have g3 := hs.ba
  have g4 := hs.m
  have g5 := hs.few
  have A1 := Lib.hid (fun w => satAdd_any s.m (stpA s.m a.c) w (by omega) (by omega))
  have A2 := Lib.hid (fun w => satAdd_any s.ba (gueA s.ba a.c (stF s.f1 a.t1) s.mss) w (by omega) (by omega))
  rw [sat64_id (by omega)] at A1 A2
  have AS := Lib.hid (fun w => step16_any s.m a.c w ha.c)
  have SB := Lib.hid (fun w h => since_any b n s a w h hs ha)
  have HB : Hid (s.ba + gueA s.ba a.c (stF s.f1 a.t1) s.mss = byK s a) := Lib.hid rfl
  have S := Lib.hid (ak_new w a)
  have H := Lib.hid (sn_alloc h a)
  have L := Lib.hid (new_alloc (new_refl w) (.cells #[.int .i64 a.u, .int .u32 a.s, .int .u8 a.c, .int .i64 a.t0, .int .i64 a.t1, .int .i64 a.t2] 31))
  rw [HB.out] at A2
  clear hs ha h g2 g3
  have HN : Hid (nxK s a = if a.t1 = -1 ∨ byK s a < s.m then s.m + stpA s.m a.c else byK s a) := Lib.hid rfl
  generalize nxK s a = N at *
  generalize byK s a = Y at *
  generalize gueA s.ba a.c (stF s.f1 a.t1) s.mss = r at *
  generalize stpA s.m a.c = q at *
  have C := Lib.hid (fun w => ce_any a w)
  by_cases h1 : a.t1 = -1
  · have e1 : (a.t1 != -1) = false := by rw [h1]; rfl
    rw [e1] at C
    obtain rfl : N = s.m + q := by have := HN.out; rw [if_pos (.inl h1)] at this; exact this
    clear HN h1 e1
    go_enter Try.func20, Try.ntmps20
    go_upto_region 1 with (fail)
    generalize w.alloc (.cells #[.int .i64 a.u, .int .u32 a.s, .int .u8 a.c, .int .i64 a.t0, .int .i64 a.t1, .int .i64 a.t2] 31) = W at *
    have c0 := S.out.cell 0 rfl
    have c1 := S.out.cell 1 rfl
    have c2 := S.out.cell 2 rfl
    have c3 := S.out.cell 3 rfl
    have c4 := S.out.cell 4 rfl
    have c5 := S.out.cell 5 rfl
    go_wp2_with (first
      | (go_at_call 22; refine (C.out _).mono ?_; rintro e w1 ⟨rfl, B1⟩
         have d4 := (Blk.kept H.out B1).cell 4 rfl
         have z2 := (S.out.kept B1).cell 2 rfl
         clear c0 c1 c2 c3 c4 c5)
      | fail)
    go_region_held3 (fun w' => w'.cell? ⟨b, 4, none⟩ = some (.int .i64 s.m) ∧ w'.cell? ⟨w.heap.size, 2, none⟩ = some (.int .u8 a.c))
      (first | assumption | go_keep)
      (first
        | (go_at_call 36; refine (AS.out _).mono ?_; rintro e w2 ⟨rfl, rfl⟩)
        | (go_at_call 34; refine (A1.out _).mono ?_; rintro e w3 ⟨rfl, rfl⟩))
    all_goals
      go_wp2_with fail
      go_ret
      exact ⟨rfl, new_draw (new_then L.out B1) _⟩
  · have e1 : (a.t1 != -1) = true := by simpa using h1
    rw [e1] at C
    clear e1
    by_cases h2 : Y < s.m
    · obtain rfl : N = s.m + q := by have := HN.out; rw [if_pos (.inr h2)] at this; exact this
      clear HN h1
      go_enter Try.func20, Try.ntmps20
      go_upto_region 1 with (fail)
      generalize w.alloc (.cells #[.int .i64 a.u, .int .u32 a.s, .int .u8 a.c, .int .i64 a.t0, .int .i64 a.t1, .int .i64 a.t2] 31) = W at *
      have c0 := S.out.cell 0 rfl
      have c1 := S.out.cell 1 rfl
      have c2 := S.out.cell 2 rfl
      have c3 := S.out.cell 3 rfl
      have c4 := S.out.cell 4 rfl
      have c5 := S.out.cell 5 rfl
      go_upto_region 2 with (first
        | (go_at_call 22; refine (C.out _).mono ?_; rintro e w1 ⟨rfl, B1⟩
           have H1 := Lib.hid (Blk.kept H.out B1)
           have S1 := Lib.hid (S.out.kept B1)
           clear c0 c1 c2 c3 c4 c5))
      have L1 := Lib.hid (new_then L.out B1)
      clear H S L B1
      have Z := sl_of (Blk.drew H1.out) S1.out.drew
      go_region_held3 (fun w' => SnB w' b s ∧ Blk w' w.heap.size (akV a) 31 ∧ w'.cell? ⟨b, 5, none⟩ = some (.int .i64 s.ba) ∧ w'.cell? ⟨w.heap.size, 0, none⟩ = some (.int .i64 a.u) ∧ w'.cell? ⟨w.heap.size, 1, none⟩ = some (.int .u32 a.s) ∧ w'.cell? ⟨w.heap.size, 2, none⟩ = some (.int .u8 a.c) ∧ w'.cell? ⟨w.heap.size, 3, none⟩ = some (.int .i64 a.t0) ∧ w'.cell? ⟨w.heap.size, 4, none⟩ = some (.int .i64 a.t1) ∧ w'.cell? ⟨w.heap.size, 5, none⟩ = some (.int .i64 a.t2))
        (first | exact Z | exact sl_keptC B2 (by assumption) | exact sl_kept B2 (by assumption) (by assumption) | assumption | go_keep)
        (first | (go_at_call 35; refine (SB.out _ (by assumption)).mono ?_; rintro e w2 ⟨rfl, B2⟩)
               | (go_at_call 34; refine (A2.out _).mono ?_; rintro e w3 ⟨rfl, rfl⟩))
      all_goals
        replace B2 := new_undrew B2
        have H2 := Lib.hid (Blk.kept H1.out B2)
        have S2 := Lib.hid (S1.out.kept B2)
        have L2 := Lib.hid (new_then L1.out B2)
        have d4 := Blk.cell H2.out 4 rfl
        have z2 := S2.out.cell 2 rfl
        clear H1 S1 L1 B2 Z
        go_upto_region 5 with (fail)
        go_region_held3 (fun w' => w'.cell? ⟨b, 4, none⟩ = some (.int .i64 s.m) ∧ w'.cell? ⟨w.heap.size, 2, none⟩ = some (.int .u8 a.c))
          (first | assumption | go_keep)
          (first
            | (go_at_call 36; refine (AS.out _).mono ?_; rintro e w2 ⟨rfl, rfl⟩)
            | (go_at_call 34; refine (A1.out _).mono ?_; rintro e w3 ⟨rfl, rfl⟩))
        all_goals
          go_wp2_with fail
          go_ret
          exact ⟨rfl, new_draw L2.out _⟩
    · obtain rfl : N = Y := by have := HN.out; rw [if_neg (by omega)] at this; exact this
      clear HN h1
      go_enter Try.func20, Try.ntmps20
      go_upto_region 1 with (fail)
      generalize w.alloc (.cells #[.int .i64 a.u, .int .u32 a.s, .int .u8 a.c, .int .i64 a.t0, .int .i64 a.t1, .int .i64 a.t2] 31) = W at *
      have c0 := S.out.cell 0 rfl
      have c1 := S.out.cell 1 rfl
      have c2 := S.out.cell 2 rfl
      have c3 := S.out.cell 3 rfl
      have c4 := S.out.cell 4 rfl
      have c5 := S.out.cell 5 rfl
      go_upto_region 2 with (first
        | (go_at_call 22; refine (C.out _).mono ?_; rintro e w1 ⟨rfl, B1⟩
           have H1 := Lib.hid (Blk.kept H.out B1)
           have S1 := Lib.hid (S.out.kept B1)
           clear c0 c1 c2 c3 c4 c5))
      have L1 := Lib.hid (new_then L.out B1)
      clear H S L B1
      have Z := sl_of (Blk.drew H1.out) S1.out.drew
      go_region_held3 (fun w' => SnB w' b s ∧ Blk w' w.heap.size (akV a) 31 ∧ w'.cell? ⟨b, 5, none⟩ = some (.int .i64 s.ba) ∧ w'.cell? ⟨w.heap.size, 0, none⟩ = some (.int .i64 a.u) ∧ w'.cell? ⟨w.heap.size, 1, none⟩ = some (.int .u32 a.s) ∧ w'.cell? ⟨w.heap.size, 2, none⟩ = some (.int .u8 a.c) ∧ w'.cell? ⟨w.heap.size, 3, none⟩ = some (.int .i64 a.t0) ∧ w'.cell? ⟨w.heap.size, 4, none⟩ = some (.int .i64 a.t1) ∧ w'.cell? ⟨w.heap.size, 5, none⟩ = some (.int .i64 a.t2))
        (first | exact Z | exact sl_keptC B2 (by assumption) | exact sl_kept B2 (by assumption) (by assumption) | assumption | go_keep)
        (first | (go_at_call 35; refine (SB.out _ (by assumption)).mono ?_; rintro e w2 ⟨rfl, B2⟩)
               | (go_at_call 34; refine (A2.out _).mono ?_; rintro e w3 ⟨rfl, rfl⟩))
      all_goals
        replace B2 := new_undrew B2
        have H2 := Lib.hid (Blk.kept H1.out B2)
        have S2 := Lib.hid (S1.out.kept B2)
        have L2 := Lib.hid (new_then L1.out B2)
        have d4 := Blk.cell H2.out 4 rfl
        have h3 : s.m ≤ N := by omega
        clear H1 S1 L1 B2 Z
        go_wp2_with fail
        go_ret
        exact ⟨rfl, L2.out⟩
end Go.Proofs.Ytfoonfmhamaclaa
