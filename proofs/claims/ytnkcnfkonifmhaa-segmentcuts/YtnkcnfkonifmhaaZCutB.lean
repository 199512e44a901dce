/- Package segment: Cut. -/
import Derived.Test.YtnkcnfkonifmhaaZCutA
import Derived.Test.YtnkcnfkonifmhaaZSegH
import Derived.Deep.LoopGhost
namespace Go.Proofs.Ytnkcnfkonifmhaa
open Go.RowKit
set_option linter.unusedVariables false

/-- What Cut tells: a row of its own. -/
def CutTo (w : World) (L : List SgC) (e : Ending) (w' : World) : Prop :=
  ∃ g c, e = .returned (.slice (some ⟨g, 0, none⟩) L.length c) ∧ OwnSg w' w.heap.size (.slice (some ⟨g, 0, none⟩) L.length c) L ∧ Below w.heap.size w w'
/-- The header's cells with a number. -/
abbrev hdQ (h : Hd) (sq : Int) : List Value := hdV { h with seq := sq }
def CutI (w : World) (h : Hd) (d : ByteArray) (S M hb gb gl gh : Nat) (vi : Value) (wr : World) : Prop :=
  ∃ (i : Nat) (sq : Int), vi = .int .i64 (i : Int) ∧ M - i = gh ∧ i ≤ M ∧ (0 ≤ sq ∧ sq ≤ 4294967295) ∧ (i < M → sq = sqC h S i) ∧ Blk wr hb (hdQ h sq) 27 ∧ LsK .u8 wr gb (some ⟨gb, 0, none⟩) (sb d) ∧
    OwnSg wr gl (.slice (some ⟨gl, 0, none⟩) M M) (cutC h d S M i ++ List.replicate (M - i) zeroSg) ∧ Below w.heap.size w wr
theorem cutS_keep {w w' : World} {hb gb o n : Nat} {t : TypeId} {zs : List Int} {T : ByteArray} {v0 v1 v2 v3 v4 v5 v6 v7 v8 v9 : Value} (A : Blk w hb [v0, v1, v2, v3, v4, v5, v6, v7, v8, v9] t) (ls : LsK .u8 w gb (some ⟨gb, o, none⟩) zs) (hn : zs.length = n) (hT : strOfNums zs = T) (B : Below w.heap.size w w') :
    w'.cell? ⟨hb, 0, none⟩ = some v0 ∧ w'.cell? ⟨hb, 1, none⟩ = some v1 ∧ w'.cell? ⟨hb, 2, none⟩ = some v2 ∧ w'.cell? ⟨hb, 3, none⟩ = some v3 ∧ w'.cell? ⟨hb, 4, none⟩ = some v4 ∧ w'.cell? ⟨hb, 5, none⟩ = some v5 ∧ w'.cell? ⟨hb, 6, none⟩ = some v6 ∧ w'.cell? ⟨hb, 7, none⟩ = some v7 ∧ w'.cell? ⟨hb, 8, none⟩ = some v8 ∧ w'.cell? ⟨hb, 9, none⟩ = some v9 ∧ (convert 32 9 (.slice (some ⟨gb, o, none⟩) n n)).run Try.prog w' = .ok (.string T) w' := by
  have A2 := A.kept B
  have l2 := text_ls (c := n) (ls.kept B) hn
  rw [hT] at l2
  exact ⟨A2.cell 0 rfl, A2.cell 1 rfl, A2.cell 2 rfl, A2.cell 3 rfl, A2.cell 4 rfl, A2.cell 5 rfl, A2.cell 6 rfl, A2.cell 7 rfl, A2.cell 8 rfl, A2.cell 9 rfl, l2⟩
theorem LsK.outG {k : IntKind} {F : Nat → Prop} {w w' : World} {g : Nat} {A : Option Addr} {zs : List Int} (h : LsK k w g A zs) (o : Out F w w') (hF : zs = [] ∨ ¬ F g) : LsK k w' g A zs := by
  rcases h with h | ⟨off, e, h⟩
  · exact .inl h
  · rcases hF with hF | hF
    · exact .inl hF
    · exact .inr ⟨off, e, fun i hi => (World.cell?_of_block (a := ⟨g, off + i, none⟩) (o.block g (World.block_lt_of_cell? w _ (h i hi)) hF)).trans (h i hi)⟩
theorem cutS_conv {w w' : World} {gb o n : Nat} {zs : List Int} {T : ByteArray} (ls : LsK .u8 w gb (some ⟨gb, o, none⟩) zs) (hn : zs.length = n) (hT : strOfNums zs = T) (B : Below w.heap.size w w') : (convert 32 9 (.slice (some ⟨gb, o, none⟩) n n)).run Try.prog w' = .ok (.string T) w' := by
  have l2 := text_ls (c := n) (ls.kept B) hn
  rw [hT] at l2
  exact l2
set_option maxRecDepth 100000 in
set_option maxHeartbeats 8000000 in
theorem cutS_any (h : Hd) (ok : HdOk h) (d : ByteArray) (mss : Int) (S M : Nat) (w : World) (hd : d.size ≤ 300)
    (hS : (mss < 1 ∧ S = 1) ∨ (1 ≤ mss ∧ mss ≤ 65000 ∧ mss = (S : Int)) ∨ (65000 < mss ∧ S = 65000)) (hM : M = max ((d.size + S - 1) / S) 1) :
    Calls Try.prog 16 #[.agg #[.int .u16 h.src, .int .u16 h.dst, .int .u32 h.seq, .int .u32 h.ack, .int .u8 h.off, .int .u8 h.ace, .int .u8 h.fl, .int .u16 h.win, .int .u16 h.sum, .int .u16 h.urg], .string d, .int .i64 mss] w (CutTo w (cutC h d S M M)) := by
  have hS1 : 1 ≤ S ∧ S ≤ 65000 := by omega
  have hMf := cut_few hS1.1 hd hM
  have HM := Lib.hid hM
  have HS := Lib.hid hS
  have OK := Lib.hid ok
  have BH := Blk.new w (hdV h) 27
  have L0 := new_alloc (new_refl w) (.cells #[.int .u16 h.src, .int .u16 h.dst, .int .u32 h.seq, .int .u32 h.ack, .int .u8 h.off, .int .u8 h.ace, .int .u8 h.fl, .int .u16 h.win, .int .u16 h.sum, .int .u16 h.urg] 27)
  have s1 : (d.size : Int) ≤ 1048576 := by omega
  have s2 : (0 : Int) ≤ (d.size : Int) := by omega
  have s4 : (if (1048576 : Int) < (d.size : Int) then (1048576 : Int) else (d.size : Int)) = (d.size : Int) := if_neg (by omega)
  have cv := fun w' => conv_bytes w' d
  clear hM hS ok
  go_enter Try.func16, Try.ntmps16
  go_upto_region 1 with (fail)
  generalize w.alloc (.cells #[.int .u16 h.src, .int .u16 h.dst, .int .u32 h.seq, .int .u32 h.ack, .int .u8 h.off, .int .u8 h.ace, .int .u8 h.fl, .int .u16 h.win, .int .u16 h.sum, .int .u16 h.urg] 27) = W at BH L0 ⊢
  go_upto_region 2 with (fail)
  have LB := bytes_ls W d
  have BB := bytes_below W d
  obtain ⟨cb, hcb⟩ : ∃ cb, grownCap W d.size 0 5 = cb := ⟨_, rfl⟩
  have hcb1 : d.size ≤ cb := by rw [← hcb]; exact grownCap_ge _ _ _ _
  have hcb2 : cb ≤ 9223372036854775807 := by have := grownCap_le_maxLen W d.size 0 5 (by unfold maxLen; omega); unfold maxLen at this; omega
  rw [hcb]
  obtain ⟨gb, hgb⟩ : ∃ gb, W.heap.size = gb := ⟨_, rfl⟩
  have hgw := BH.lt
  rw [hgb] at hgw
  have HGW := Lib.hid hgw
  clear hgw
  replace BH := BH.kept BB
  have L1 := new_then L0 BB
  rw [hgb] at LB ⊢
  generalize Lib.bytesWorld W 5 d = W1 at BH L1 LB ⊢
  clear L0 BB hcb hgb cv s1 s2 s4
  go_cut [8] (fun v wx => v = .int .i64 (S : Int) ∧ W1 = wx)
  case first =>
    rcases HS.out with ⟨h1, rfl⟩ | ⟨h1, h2, rfl⟩ | ⟨h1, rfl⟩
    · go_wp2_with fail
      go_meet
      case rel => exact ⟨rfl, rfl⟩
    · have h3 : ¬ (S : Int) < 1 := by omega
      go_wp2_with fail
      go_meet
      case rel => exact ⟨rfl, rfl⟩
    · have h3 : ¬ mss < 1 := by omega
      go_wp2_with fail
      go_meet
      case rel => exact ⟨rfl, rfl⟩
  case rest =>
    obtain ⟨rfl, rfl⟩ := hcut
    obtain ⟨hSa, hSb⟩ := hS1
    obtain ⟨q, hq⟩ : ∃ q, (d.size + S - 1) / S = q := ⟨_, rfl⟩
    have HQ : Hid (M = max q 1) := Lib.hid (by rw [← hq]; exact HM.out)
    have z1 : ¬ (S : Int) = 0 := by omega
    have z2 : ¬ S = 0 := by omega
    have z3 : (0 : Int) < (S : Int) := by omega
    have e1 : ((d.size : Int) + (S : Int) - 1).tdiv (S : Int) = (q : Int) := by
      rw [Int.tdiv_eq_ediv_of_nonneg (by omega), ← hq, Int.natCast_ediv]
      congr 1
      omega
    have e2 : ((d.size : Int) + (S : Int) - 1) / (S : Int) = (q : Int) := by
      rw [← e1, Int.tdiv_eq_ediv_of_nonneg (by omega)]
    clear hq
    go_upto_region 3 with (fail)
    go_cut [9] (fun v wx => v = .int .i64 (M : Int) ∧ W1 = wx)
    case first =>
      by_cases hq0 : q < 1
      · have h1 : (q : Int) < 1 := by omega
        obtain rfl : M = 1 := by have := HQ.out; omega
        go_wp2_with fail
        go_meet
        case rel => exact ⟨rfl, rfl⟩
      · have h1 : ¬ (q : Int) < 1 := by omega
        obtain rfl : M = q := by have := HQ.out; omega
        go_wp2_with fail
        go_meet
        case rel => exact ⟨rfl, rfl⟩
    case rest =>
      obtain ⟨rfl, rfl⟩ := hcut
      clear e1 e2 HQ z1 z2 z3
      have mk := fun w => make_rowE strSg M (by omega) w
      have OM : OwnSg (W1.alloc (.cells (madeCells #[.int .u16 0, .int .u16 0, .int .u32 0, .int .u32 0, .int .u8 0, .int .u8 0, .int .u8 0, .int .u16 0, .int .u16 0, .int .u16 0, .slice none 0 0, .string ⟨#[]⟩] (M * 12)) 30)) W1.heap.size (.slice (some ⟨W1.heap.size, 0, none⟩) M M) (List.replicate M zeroSg) := OwnE.made encSg_is strSg zeroSg rfl (w := W1) (n := M) (by omega)
      have L2 := new_alloc L1 (.cells (madeCells #[.int .u16 0, .int .u16 0, .int .u32 0, .int .u32 0, .int .u8 0, .int .u8 0, .int .u8 0, .int .u16 0, .int .u16 0, .int .u16 0, .slice none 0 0, .string ⟨#[]⟩] (M * 12)) 30)
      have hhl := BH.lt
      have hbg : gb < W1.heap.size ∨ d.size = 0 := by
        rcases LB with h' | ⟨off, e, h'⟩
        · exact .inr (by rw [← sb_len, h']; rfl)
        · rcases Nat.eq_zero_or_pos d.size with h0 | h0
          · exact .inr h0
          · exact .inl (World.block_lt_of_cell? W1 _ (h' 0 (by rw [sb_len]; exact h0)))
      replace BH := BH.alloc (.cells (madeCells #[.int .u16 0, .int .u16 0, .int .u32 0, .int .u32 0, .int .u8 0, .int .u8 0, .int .u8 0, .int .u16 0, .int .u16 0, .int .u16 0, .slice none 0 0, .string ⟨#[]⟩] (M * 12)) 30)
      replace LB := LB.kept (new_alloc (new_refl W1) (.cells (madeCells #[.int .u16 0, .int .u16 0, .int .u32 0, .int .u32 0, .int .u8 0, .int .u8 0, .int .u8 0, .int .u16 0, .int .u16 0, .int .u16 0, .slice none 0 0, .string ⟨#[]⟩] (M * 12)) 30))
      go_upto_region 5 with (fail)
      obtain ⟨gl, hgl⟩ : ∃ gl, W1.heap.size = gl := ⟨_, rfl⟩
      rw [hgl] at OM hhl hbg ⊢
      generalize W1.alloc (.cells (madeCells #[.int .u16 0, .int .u16 0, .int .u32 0, .int .u32 0, .int .u8 0, .int .u8 0, .int .u8 0, .int .u16 0, .int .u16 0, .int .u16 0, .slice none 0 0, .string ⟨#[]⟩] (M * 12)) 30) = W2 at OM L2 BH LB ⊢
      clear mk hgl L1
      have HB := Lib.hid hbg
      have HH := Lib.hid hhl
      clear hbg hhl
      have m0 : ¬ (M : Int) ≤ 0 := by omega
      go_wp2_with fail
      go_loopg [35] M (fun gh vi wr => CutI w h d S M w.heap.size gb gl gh vi wr)
      case atStart => exact ⟨0, h.seq, rfl, rfl, by omega, OK.out.seq, fun _ => (sq_zero OK.out S).symm, BH, LB, by simpa [cutC] using OM, L2⟩
      case round =>
        clear BH LB OM L2
        obtain ⟨i, sq, rfl, rfl, hi, hsq, hsi, BH, LB, OM, LL⟩ := hrel
        by_cases hlt : i < M
        · have HSQ := Lib.hid (hsi hlt)
          clear hsi
          obtain ⟨ib1, ib2, ib3⟩ := cut_bounds hSa HM.out hlt
          have k0 : (0 : Int) ≤ (i : Int) := by omega
          have k1 : (i : Int) < (M : Int) := by omega
          obtain ⟨lo, hlo⟩ : ∃ lo, i * S = lo := ⟨_, rfl⟩
          obtain ⟨hi2, hhi⟩ : ∃ hi2, min (lo + S) d.size = hi2 := ⟨_, rfl⟩
          rw [hlo] at ib1 ib2 ib3
          have k2 : (i : Int) * (S : Int) = (lo : Int) := by rw [← hlo, Int.natCast_mul]
          have k3 : (if (d.size : Int) < (lo : Int) + (S : Int) then (d.size : Int) else (lo : Int) + (S : Int)) = (hi2 : Int) := by split <;> omega
          have k4 : lo ≤ hi2 := by omega
          have k5 : hi2 ≤ d.size := by omega
          go_upto_region 9 with (fail)
          obtain ⟨n, hn⟩ : ∃ n, hi2 - lo = n := ⟨_, rfl⟩
          obtain ⟨o1, ho1⟩ : ∃ o1, (if hi2 = lo then 0 else 0 + lo) = o1 := ⟨_, rfl⟩
          have DA := Lib.hid (fun w' => piece_at gb 0 d.size cb lo hi2 n o1 w' k4 (Nat.le_trans k5 hcb1) hcb2 hn ho1)
          have PL := Lib.hid (piece_ls LB hn ho1)
          have hpl : (((sb d).drop lo).take n).length = n := by rw [List.length_take, List.length_drop, sb_len]; omega
          have HPL := Lib.hid hpl
          obtain ⟨T, hT⟩ : ∃ T, d.extract lo hi2 = T := ⟨_, rfl⟩
          have HTX : Hid (strOfNums (((sb d).drop lo).take n) = T) := Lib.hid (by rw [← hn, str_extract, hT])
          have HBH := Lib.hid BH
          have c0 := BH.cell 0 rfl; have c1 := BH.cell 1 rfl; have c2 := BH.cell 2 rfl; have c3 := BH.cell 3 rfl; have c4 := BH.cell 4 rfl; have c5 := BH.cell 5 rfl; have c6 := BH.cell 6 rfl; have c7 := BH.cell 7 rfl; have c8 := BH.cell 8 rfl; have c9 := BH.cell 9 rfl
          have cv : (convert 32 9 (.slice (some ⟨gb, o1, none⟩) n n)).run Try.prog wr.drew = .ok (.string T) wr.drew := (cutS_keep BH PL.out hpl HTX.out (new_drew (new_refl wr))).2.2.2.2.2.2.2.2.2.2
          have v1 : IntKind.i64.wrap ((lo : Int) + (S : Int)) = (lo : Int) + (S : Int) := by rw [IntKind.wrap_i64]; omega
          clear hn ho1 hpl
          have hgl2 := (OM.lt encSg_is).2
          go_cut [13] (fun v wx => v = .pointer (some ⟨wr.heap.size, 0, none⟩) ∧ Blk wx wr.heap.size [.int .u16 h.src, .int .u16 h.dst, .int .u32 sq, .int .u32 h.ack, .int .u8 h.off, .int .u8 h.ace, .int .u8 h.fl, .int .u16 h.win, .int .u16 h.sum, .int .u16 h.urg, .slice none 0 0, .string T] 30 ∧ Below wr.heap.size wr wx)
          case first =>
           go_region_held3 (fun w' => w'.cell? ⟨w.heap.size, 0, none⟩ = some (.int .u16 h.src) ∧ w'.cell? ⟨w.heap.size, 1, none⟩ = some (.int .u16 h.dst) ∧ w'.cell? ⟨w.heap.size, 2, none⟩ = some (.int .u32 sq) ∧ w'.cell? ⟨w.heap.size, 3, none⟩ = some (.int .u32 h.ack) ∧ w'.cell? ⟨w.heap.size, 4, none⟩ = some (.int .u8 h.off) ∧ w'.cell? ⟨w.heap.size, 5, none⟩ = some (.int .u8 h.ace) ∧ w'.cell? ⟨w.heap.size, 6, none⟩ = some (.int .u8 h.fl) ∧ w'.cell? ⟨w.heap.size, 7, none⟩ = some (.int .u16 h.win) ∧ w'.cell? ⟨w.heap.size, 8, none⟩ = some (.int .u16 h.sum) ∧ w'.cell? ⟨w.heap.size, 9, none⟩ = some (.int .u16 h.urg) ∧ (convert 32 9 (.slice (some ⟨gb, o1, none⟩) n n)).run Try.prog w' = .ok (.string T) w')
            (first | exact cutS_keep HBH.out PL.out HPL.out HTX.out (new_drew (new_refl wr)) | exact cutS_keep HBH.out PL.out HPL.out HTX.out (new_drew (new_alloc (new_refl wr) _)) | exact cutS_keep HBH.out PL.out HPL.out HTX.out (new_set (new_drew (new_alloc (new_refl wr) _)) (Nat.le_refl _) _) | go_keep)
            (first
              | (go_at_call 31; refine (DA.out _).mono ?_; rintro e w5 ⟨rfl, rfl⟩))
           all_goals
            clear c0 c1 c2 c3 c4 c5 c6 c7 c8 c9 cv
            go_wp2_with fail
            go_meet
            case rel => first | exact ⟨rfl, (Blk.new wr _ _).drew, new_drew (new_alloc (new_refl wr) _)⟩ | exact ⟨rfl, Blk.new wr.drew _ _, new_alloc (new_drew (new_refl wr)) _⟩
          case rest =>
            obtain ⟨rfl, BS, BW⟩ := hcut
            clear c0 c1 c2 c3 c4 c5 c6 c7 c8 c9 cv DA PL HPL HBH
            replace BH := BH.kept BW
            replace LB := LB.kept BW
            replace OM := OM.kept BW
            replace LL := new_then LL BW
            obtain ⟨gs, hgs⟩ : ∃ gs, wr.heap.size = gs := ⟨_, rfl⟩
            have hgl' : gl < wr.heap.size := hgl2
            rw [hgs] at BS hgl' ⊢
            have hws : w.heap.size < gs := by have := HH.out; omega
            clear BW hgl2
            obtain ⟨fl0, fl1⟩ := OK.out.fl
            obtain ⟨f1, hf1⟩ : ∃ f1, h.fl - 2 * (h.fl / 2 % 2) = f1 := ⟨_, rfl⟩
            obtain ⟨f2, hf2⟩ : ∃ f2, f1 - (f1 % 2 + 8 * (f1 / 8 % 2)) = f2 := ⟨_, rfl⟩
            obtain ⟨f3, hf3⟩ : ∃ f3, h.fl - (h.fl % 2 + 8 * (h.fl / 8 % 2)) = f3 := ⟨_, rfl⟩
            have a1 : bits .andNot .u8 h.fl 2 = f1 := by
              have := andn_two h.fl.toNat (by omega)
              rw [show ((h.fl.toNat : Nat) : Int) = h.fl by omega] at this
              rw [this, hf1]
            have a2 : bits .andNot .u8 f1 9 = f2 := by
              have := andn_nine f1.toNat (by omega)
              rw [show ((f1.toNat : Nat) : Int) = f1 by omega] at this
              rw [this, hf2]
            have a3 : bits .andNot .u8 h.fl 9 = f3 := by
              have := andn_nine h.fl.toNat (by omega)
              rw [show ((h.fl.toNat : Nat) : Int) = h.fl by omega] at this
              rw [this, hf3]
            have HF1 := Lib.hid hf1
            have HF2 := Lib.hid hf2
            have HF3 := Lib.hid hf3
            clear hf1 hf2 hf3
            have c0 := BS.cell 0 rfl; have c1 := BS.cell 1 rfl; have c2 := BS.cell 2 rfl; have c3 := BS.cell 3 rfl; have c4 := BS.cell 4 rfl; have c5 := BS.cell 5 rfl; have c6 := BS.cell 6 rfl; have c7 := BS.cell 7 rfl; have c8 := BS.cell 8 rfl; have c9 := BS.cell 9 rfl; have c10 := BS.cell 10 rfl; have c11 := BS.cell 11 rfl
            have cf := fun i => BS.frozen i
            have h4 : (0 < i ∧ i + 1 < M) ∨ (0 < i ∧ ¬ i + 1 < M) ∨ (¬ 0 < i ∧ i + 1 < M) ∨ (¬ 0 < i ∧ ¬ i + 1 < M) := by omega
            rcases h4 with ⟨h1, h2⟩ | ⟨h1, h2⟩ | ⟨h1, h2⟩ | ⟨h1, h2⟩
            case' inl =>
              have j1 : (0 : Int) < (i : Int) := by omega
              have j2 : (i : Int) < (M : Int) - 1 := by omega
              go_upto_region 14 with (fail)
              have HFL : Hid (f2 = flC h.fl (decide (0 < i)) (decide (i + 1 < M))) := Lib.hid (by have := HF1.out; have := HF2.out; have := HF3.out; simp [flC, h1, h2] <;> omega)
              have BS2 := (BS.set 6 (.int .u8 f1)).set 6 (.int .u8 f2)
              have O2 := ((Out.refl (fun k => k = gs) wc).set (p := ⟨gs, 6, none⟩) (.inl rfl) (.int .u8 f1)).set (p := ⟨gs, 6, none⟩) (.inl rfl) (.int .u8 f2)
              clear c0 c1 c2 c3 c4 c5 c6 c7 c8 c9 c10 c11 cf
              generalize (wc.setCell ⟨gs, 6, none⟩ (.int .u8 f1)).setCell ⟨gs, 6, none⟩ (.int .u8 f2) = W9 at BS2 O2 ⊢
              generalize f2 = F at HFL BS2 ⊢
            case' inr.inl =>
              have j1 : (0 : Int) < (i : Int) := by omega
              have j2 : ¬ (i : Int) < (M : Int) - 1 := by omega
              go_upto_region 14 with (fail)
              have HFL : Hid (f1 = flC h.fl (decide (0 < i)) (decide (i + 1 < M))) := Lib.hid (by have := HF1.out; have := HF2.out; have := HF3.out; simp [flC, h1, h2] <;> omega)
              have BS2 := BS.set 6 (.int .u8 f1)
              have O2 := (Out.refl (fun k => k = gs) wc).set (p := ⟨gs, 6, none⟩) (.inl rfl) (.int .u8 f1)
              clear c0 c1 c2 c3 c4 c5 c6 c7 c8 c9 c10 c11 cf
              generalize wc.setCell ⟨gs, 6, none⟩ (.int .u8 f1) = W9 at BS2 O2 ⊢
              generalize f1 = F at HFL BS2 ⊢
            case' inr.inr.inl =>
              have j1 : ¬ (0 : Int) < (i : Int) := by omega
              have j2 : (i : Int) < (M : Int) - 1 := by omega
              go_upto_region 14 with (fail)
              have HFL : Hid (f3 = flC h.fl (decide (0 < i)) (decide (i + 1 < M))) := Lib.hid (by have := HF1.out; have := HF2.out; have := HF3.out; simp [flC, h1, h2] <;> omega)
              have BS2 := BS.set 6 (.int .u8 f3)
              have O2 := (Out.refl (fun k => k = gs) wc).set (p := ⟨gs, 6, none⟩) (.inl rfl) (.int .u8 f3)
              clear c0 c1 c2 c3 c4 c5 c6 c7 c8 c9 c10 c11 cf
              generalize wc.setCell ⟨gs, 6, none⟩ (.int .u8 f3) = W9 at BS2 O2 ⊢
              generalize f3 = F at HFL BS2 ⊢
            case' inr.inr.inr =>
              have j1 : ¬ (0 : Int) < (i : Int) := by omega
              have j2 : ¬ (i : Int) < (M : Int) - 1 := by omega
              go_upto_region 14 with (fail)
              have HFL : Hid (h.fl = flC h.fl (decide (0 < i)) (decide (i + 1 < M))) := Lib.hid (by have := HF1.out; have := HF2.out; have := HF3.out; simp [flC, h1, h2] <;> omega)
              have BS2 := BS
              have O2 := (Out.refl (fun k => k = gs) wc)
              clear c0 c1 c2 c3 c4 c5 c6 c7 c8 c9 c10 c11 cf
              obtain ⟨W9, hW9⟩ : ∃ W9, wc = W9 := ⟨_, rfl⟩
              have BS3 : Blk W9 gs [.int .u16 h.src, .int .u16 h.dst, .int .u32 sq, .int .u32 h.ack, .int .u8 h.off, .int .u8 h.ace, .int .u8 h.fl, .int .u16 h.win, .int .u16 h.sum, .int .u16 h.urg, .slice none 0 0, .string T] 30 := by rw [← hW9]; exact BS
              have O3 : Out (fun k => k = gs) wc W9 := by rw [← hW9]; exact Out.refl _ _
              rw [hW9]
              obtain ⟨F, hF⟩ : ∃ F, h.fl = F := ⟨_, rfl⟩
              clear BS2 O2
              have BS2 : Blk W9 gs [.int .u16 h.src, .int .u16 h.dst, .int .u32 sq, .int .u32 h.ack, .int .u8 h.off, .int .u8 h.ace, .int .u8 F, .int .u16 h.win, .int .u16 h.sum, .int .u16 h.urg, .slice none 0 0, .string T] 30 := by rw [← hF]; exact BS3
              have O2 := O3
              replace HFL : Hid (F = flC h.fl (decide (0 < i)) (decide (i + 1 < M))) := Lib.hid (by rw [← hF]; exact HFL.out)
              clear BS3 O3 hW9 hF
            all_goals
              have hgn : ¬ gl = gs := by omega
              have BH2 := BH.out O2 (show ¬ w.heap.size = gs by omega)
              have LB2 := LB.outG O2 (show sb d = [] ∨ ¬ gb = gs by rcases HB.out with h' | h'; exact .inr (by omega); exact .inl (List.eq_nil_of_length_eq_zero (by rw [sb_len]; exact h')))
              have OM2 : OwnSg W9 gl (.slice (some ⟨gl, 0, none⟩) M M) (cutC h d S M i ++ List.replicate (M - i) zeroSg) := OM.out O2 (fun g e => by simp [Value.ownBlock] at e; omega)
              have LL2 := LL.trans (O2.below LL.size (fun k e => by omega))
              clear BS BH LB OM LL O2
              have hil : i < (cutC h d S M i ++ List.replicate (M - i) zeroSg).length := by rw [List.length_append, cutC_len, List.length_replicate]; omega
              have q0 := OM2.cells encSg_is hil (j := 0) rfl
              have q1 := OM2.cells encSg_is hil (j := 1) rfl
              have q2 := OM2.cells encSg_is hil (j := 2) rfl
              have q3 := OM2.cells encSg_is hil (j := 3) rfl
              have q4 := OM2.cells encSg_is hil (j := 4) rfl
              have q5 := OM2.cells encSg_is hil (j := 5) rfl
              have q6 := OM2.cells encSg_is hil (j := 6) rfl
              have q7 := OM2.cells encSg_is hil (j := 7) rfl
              have q8 := OM2.cells encSg_is hil (j := 8) rfl
              have q9 := OM2.cells encSg_is hil (j := 9) rfl
              have q10 := OM2.cells encSg_is hil (j := 10) rfl
              have q11 := OM2.cells encSg_is hil (j := 11) rfl
              have qf := OM2.frozen encSg_is
              rw [Nat.add_zero] at q0
              have c0 := BS2.cell 0 rfl; have c1 := BS2.cell 1 rfl; have c2 := BS2.cell 2 rfl; have c3 := BS2.cell 3 rfl; have c4 := BS2.cell 4 rfl; have c5 := BS2.cell 5 rfl; have c6 := BS2.cell 6 rfl; have c7 := BS2.cell 7 rfl; have c8 := BS2.cell 8 rfl; have c9 := BS2.cell 9 rfl; have c10 := BS2.cell 10 rfl; have c11 := BS2.cell 11 rfl
              go_upto_region 15 with (fail)
              clear q0 q1 q2 q3 q4 q5 q6 q7 q8 q9 q10 q11 qf c0 c1 c2 c3 c4 c5 c6 c7 c8 c9 c10 c11
              have OM3 := OM2.put encSg_is hil ⟨{ h with seq := sq, fl := F }, T⟩
              have O3 := Out.setCells (F := fun k => k = gl) (a := W9) (g := gl) (.inl rfl) (encSg ⟨{ h with seq := sq, fl := F }, T⟩) (i * 12) (Out.refl _ W9)
              have hy : (⟨{ h with seq := sq, fl := F }, T⟩ : SgC) = segC h d S M i := by rw [segC, ← HSQ.out, ← HFL.out, hlo, hhi, hT]
              rw [hy, cutC_set h d S M hlt zeroSg] at OM3
              rw [hy] at O3
              have hWW : W9.setCells gl (i * 12) (encSg (segC h d S M i)) = ((((((((((((W9.setCell ⟨gl, i * 12, none⟩ (.int .u16 h.src)).setCell ⟨gl, i * 12 + 1, none⟩ (.int .u16 h.dst)).setCell ⟨gl, i * 12 + 2, none⟩ (.int .u32 sq)).setCell ⟨gl, i * 12 + 3, none⟩ (.int .u32 h.ack)).setCell ⟨gl, i * 12 + 4, none⟩ (.int .u8 h.off)).setCell ⟨gl, i * 12 + 5, none⟩ (.int .u8 h.ace)).setCell ⟨gl, i * 12 + 6, none⟩ (.int .u8 F)).setCell ⟨gl, i * 12 + 7, none⟩ (.int .u16 h.win)).setCell ⟨gl, i * 12 + 8, none⟩ (.int .u16 h.sum)).setCell ⟨gl, i * 12 + 9, none⟩ (.int .u16 h.urg)).setCell ⟨gl, i * 12 + 10, none⟩ (.slice none 0 0)).setCell ⟨gl, i * 12 + 11, none⟩ (.string T)) := by rw [← hy]; rfl
              rw [hWW] at OM3 O3
              generalize ((((((((((((W9.setCell ⟨gl, i * 12, none⟩ (.int .u16 h.src)).setCell ⟨gl, i * 12 + 1, none⟩ (.int .u16 h.dst)).setCell ⟨gl, i * 12 + 2, none⟩ (.int .u32 sq)).setCell ⟨gl, i * 12 + 3, none⟩ (.int .u32 h.ack)).setCell ⟨gl, i * 12 + 4, none⟩ (.int .u8 h.off)).setCell ⟨gl, i * 12 + 5, none⟩ (.int .u8 h.ace)).setCell ⟨gl, i * 12 + 6, none⟩ (.int .u8 F)).setCell ⟨gl, i * 12 + 7, none⟩ (.int .u16 h.win)).setCell ⟨gl, i * 12 + 8, none⟩ (.int .u16 h.sum)).setCell ⟨gl, i * 12 + 9, none⟩ (.int .u16 h.urg)).setCell ⟨gl, i * 12 + 10, none⟩ (.slice none 0 0)).setCell ⟨gl, i * 12 + 11, none⟩ (.string T)) = W10 at OM3 O3 ⊢
              clear hWW hy
              have BH3 := BH2.out O3 (show ¬ w.heap.size = gl by have := HH.out; omega)
              have LB3 := LB2.outG O3 (show sb d = [] ∨ ¬ gb = gl by rcases HB.out with h' | h'; exact .inr (by omega); exact .inl (List.eq_nil_of_length_eq_zero (by rw [sb_len]; exact h')))
              have BS3 := BS2.out O3 (show ¬ gs = gl by omega)
              have LL3 := LL2.trans (O3.below LL2.size (fun k e => by have := HH.out; omega))
              clear BH2 LB2 BS2 LL2 O3 OM2 hil
              have hTs : T.size = hi2 - lo := by rw [← hT, ByteArray.size_extract]; omega
              obtain ⟨p0, p1, p2, p3⟩ := fl_parts (fl := h.fl) (decide (0 < i)) (decide (i + 1 < M)) OK.out.fl
              rw [← HFL.out] at p0 p1 p2 p3
              obtain ⟨zz, hzz⟩ : ∃ zz : Int, (T.size : Int) + F / 2 % 2 + F % 2 = zz := ⟨_, rfl⟩
              have hzb : 0 ≤ zz ∧ zz ≤ 1000000000 := by omega
              obtain ⟨sq2, hsq2⟩ : ∃ sq2, (sq + zz) % 4294967296 = sq2 := ⟨_, rfl⟩
              have LC := Lib.hid (fun w' => length13_any { h with seq := sq, fl := F } ⟨p0, p1⟩ none 0 0 T zz w' (by omega) hzz)
              have OC1 := Lib.hid (fun w' => onward_any sq zz w' hsq hzb)
              rw [hsq2] at OC1
              have hnext : i + 1 < M → sq2 = sqC h S (i + 1) := fun hlt2 => by
                rw [← sq_succ, ← HSQ.out, ← hsq2, ← hzz, p2, p3]
                have hTS : (T.size : Int) = (S : Int) := by omega
                by_cases hi0 : i = 0
                · subst hi0
                  simp [hlt2, hTS] <;> omega
                · have : 0 < i := by omega
                  simp [hlt2, hTS, hi0, this] <;> omega
              have hsb2 : 0 ≤ sq2 ∧ sq2 ≤ 4294967295 := by omega
              have HN2 := Lib.hid hnext
              clear hnext hzz hsq2 hTs p2 p3
              have c0 := BS3.cell 0 rfl; have c1 := BS3.cell 1 rfl; have c2 := BS3.cell 2 rfl; have c3 := BS3.cell 3 rfl; have c4 := BS3.cell 4 rfl; have c5 := BS3.cell 5 rfl; have c6 := BS3.cell 6 rfl; have c7 := BS3.cell 7 rfl; have c8 := BS3.cell 8 rfl; have c9 := BS3.cell 9 rfl; have c10 := BS3.cell 10 rfl; have c11 := BS3.cell 11 rfl
              have b2 := BH3.cell 2 rfl
              have bf := BH3.frozen 2
              go_region_law
                (first
                  | (go_simp; go_at_call 11; refine (LC.out _).mono ?_; rintro e w11 ⟨rfl, B11⟩; replace B11 := new_undrew B11; have BH4 := BH3.kept B11; have d2 := BH4.cell 2 rfl; have df := BH4.frozen 2; dsimp only)
                  | (go_simp; go_at_call 35; refine (OC1.out _).mono ?_; rintro e w12 ⟨rfl, hw12⟩; subst hw12; dsimp only))
              all_goals
                clear c0 c1 c2 c3 c4 c5 c6 c7 c8 c9 c10 c11 b2 bf d2 df
                have BH5 := BH4.set 2 (.int .u32 sq2)
                have O5 := (Out.refl (fun k => k = w.heap.size) w11).set (p := ⟨w.heap.size, 2, none⟩) (.inl rfl) (.int .u32 sq2)
                have LB5 := (LB3.kept B11).outG O5 (.inr (show ¬ gb = w.heap.size by have := HGW.out; omega))
                have OM5 : OwnSg (w11.setCell ⟨w.heap.size, 2, none⟩ (.int .u32 sq2)) gl (.slice (some ⟨gl, 0, none⟩) M M) (cutC h d S M (i + 1) ++ List.replicate (M - (i + 1)) zeroSg) := (OM3.kept B11).out O5 (fun g e => by simp [Value.ownBlock] at e; have := HH.out; omega)
                have LL5 := new_set (p := ⟨w.heap.size, 2, none⟩) (new_then LL3 B11) (Nat.le_refl _) (.int .u32 sq2)
                generalize w11.setCell ⟨w.heap.size, 2, none⟩ (.int .u32 sq2) = W12 at BH5 LB5 OM5 LL5 ⊢
                clear B11 BH4 BH3 LB3 OM3 LL3 BS3 O5
                go_wp2_with fail
                go_roundg (M - (i + 1))
                case measure => omega
                case rel => exact ⟨i + 1, sq2, by go_num, rfl, by omega, hsb2, HN2.out, BH5, LB5, OM5, LL5⟩
        · obtain rfl : i = M := by omega
          have k1 : ¬ (i : Int) < (i : Int) := by omega
          go_wp2_with fail
          go_ret
          have hl := cutC_len h d S i i
          have OF := OM.mono (show w.heap.size ≤ gl by have := HH.out; omega)
          rw [Nat.sub_self, List.replicate_zero, List.append_nil] at OF
          exact ⟨gl, i, by rw [hl]; rfl, by rw [hl]; exact OF, LL⟩
end Go.Proofs.Ytnkcnfkonifmhaa
