/- Package rtt: an estimate behind many samples; how long to wait. -/
import Derived.Test.YtlfckllbpkehlaaRttB
namespace Go.Proofs.Ytlfckllbpkehlaa
open Go.ChangeShapes Go.WideShapes Go.ChangeAt Go.RowKit
set_option linter.unusedVariables false

def AllI20 (w : World) (c : Rtx) (ks : List Int) (N gh : Nat) (vi : Value) (wr : World) : Prop := ∃ i : Nat, vi = .int .i64 (i : Int) ∧ N - i = gh ∧ i ≤ N ∧ SmAt w wr (rtAll c (ks.take i)) ⟨0, 0, false⟩
set_option maxHeartbeats 1000000 in
theorem all20_any (c : Rtx) (g N cp : Nat) (A : Option Addr) (ks : List Int) (w : World) (hl : LsK .i64 w g A ks) (hN : ks.length = N) (hm : N ≤ 1000000) :
    Calls Try.prog 12 #[rtG c, .slice A N cp] w (RtIs w (rtAll c ks)) := by
  have S := Lib.hid (sm_start w c)
  have HL := Lib.hid hl
  have HN := Lib.hid hN
  clear hl hN
  unfold RtIs rtG
  go_enter Try.func12, Try.ntmps12
  go_wp2_with fail
  go_loopg [9] N (fun gh vi wr => AllI20 w c ks N gh vi wr)
  case atStart => exact ⟨0, rfl, rfl, by omega, by rw [rtAll_nil]; exact S.out⟩
  case round =>
    clear S
    obtain ⟨i, rfl, rfl, hi, C⟩ := hrel
    have HC := Lib.hid C
    have c0 := C.cur.cell 0 rfl
    have c1 := C.cur.cell 1 rfl
    have c2 := C.cur.cell 2 rfl
    by_cases hlt : i < N
    · have k0 : (0 : Int) ≤ (i : Int) := by omega
      have k1 : (i : Int) < (N : Int) := by omega
      have LS := HL.out.kept C.low
      rcases LS with rfl | ⟨off, rfl, hc⟩
      · have := HN.out; simp at this; omega
      have z0 := hc i (by have := HN.out; omega)
      have HS := Lib.hid (rtAll_snoc c ks (i := i) (by have := HN.out; omega))
      clear C hc
      generalize rtAll c (ks.take i) = d at *
      generalize ks[i]?.getD 0 = k at *
      have f0 := HC.out.cur.frozen 0
      have f1 := HC.out.cur.frozen 1
      have f2 := HC.out.cur.frozen 2
      go_wp2_with (first
        | (go_at_call 8; refine (sample20_any d k _).mono ?_; rintro e w1 ⟨rfl, B⟩
           have K := HC.out.kept B
           have D := K.setC (rtSam d k)
           have d0 := K.cur.cell 0 rfl
           have d1 := K.cur.cell 1 rfl
           have d2 := K.cur.cell 2 rfl
           have e0 := K.cur.frozen 0
           have e1 := K.cur.frozen 1
           have e2 := K.cur.frozen 2))
      go_roundg (N - (i + 1))
      case measure => omega
      case rel => exact ⟨i + 1, by go_num, rfl, by omega, by rw [HS.out]; exact D⟩
    · obtain rfl : i = N := by omega
      rw [show ks.take i = ks from by rw [← HN.out]; exact List.take_length] at *
      have r0 := C.res.cell 0 rfl
      have r1 := C.res.cell 1 rfl
      have r2 := C.res.cell 2 rfl
      have f0 := C.res.frozen 0
      have f1 := C.res.frozen 1
      have f2 := C.res.frozen 2
      clear C
      obtain ⟨d, hd⟩ : ∃ d, rtAll c ks = d := ⟨_, rfl⟩
      rw [hd] at c0 c1 c2 HC
      have HD := Lib.hid hd
      clear hd
      go_wp2_with fail
      exact bodyPost_ret (v := .agg #[.int .i64 d.a, .int .i64 d.v, .bool d.s]) (by simp [results, Try.results12, go_sem, r0, r1, r2]) rfl ⟨by rw [HD.out], (HC.out.setR d).low⟩

set_option maxHeartbeats 1000000 in
theorem rto20_any (c : Rtx) (tick least most : Int) (w : World) (ht : -9223372036854775808 ≤ tick ∧ tick ≤ 9223372036854775807) :
    Calls Try.prog 14 #[rtG c, .int .i64 tick, .int .i64 least, .int .i64 most] w fun e w' => e = .returned (.int .i64 (rtRto c tick least most)) ∧ Below w.heap.size w w' := by
  unfold rtG
  obtain ⟨a, v, s⟩ := c
  cases s
  · have E : Hid (rtRto ⟨a, v, false⟩ tick least most = most) := Lib.hid rfl
    rw [E.out]
    clear E
    go_enter Try.func14, Try.ntmps14
    go_wp2_with fail
    go_ret
    exact ⟨rfl, new_alloc (new_refl w) _⟩
  · have bS := rtSm_bd ⟨a, v, true⟩
    have iV := rtIn_bd v
    have E : Hid (rtRto ⟨a, v, true⟩ tick least most = clampI (sat64 (rtSm ⟨a, v, true⟩ + (if tick < rtIn v then rtIn v else tick))) least most) := Lib.hid rfl
    rw [E.out]
    clear E
    have KP : Hid (∀ w, Calls Try.prog 18 #[.agg #[.int .i64 a, .int .i64 v, .bool true]] w fun e w' => e = .returned (.agg #[.int .i64 (rtIn a), .int .i64 (rtIn v), .bool true]) ∧ Below w.heap.size w w') := Lib.hid (fun w => kept20_any ⟨a, v, true⟩ w)
    have SM : Hid (∀ w, Calls Try.prog 9 #[.agg #[.int .i64 a, .int .i64 v, .bool true]] w fun e w' => e = .returned (.int .i64 (rtSm ⟨a, v, true⟩)) ∧ Below w.heap.size w w') := Lib.hid (fun w => smooth20_any ⟨a, v, true⟩ w)
    have hfd : ∀ w : World, (Instr.field 23 (.agg #[.int .i64 (rtIn a), .int .i64 (rtIn v), .bool true]) 1).run Try.prog w = .ok (.int .i64 (rtIn v)) w := fun _ => by kernel_rfl
    generalize rtSm ⟨a, v, true⟩ = S1 at *
    generalize rtIn a = A at *
    generalize rtIn v = V at *
    obtain ⟨M, hM⟩ : ∃ M, (if tick < V then V else tick) = M := ⟨_, rfl⟩
    have bM : -9223372036854775808 ≤ M ∧ M ≤ 9223372036854775807 := by rw [← hM]; split <;> omega
    rw [hM]
    have AD : Hid (∀ w, Calls Try.prog 20 #[.int .i64 S1, .int .i64 M] w fun e w' => e = .returned (.int .i64 (sat64 (S1 + M))) ∧ w = w') := Lib.hid (fun w => satAdd_any S1 M w (by omega) bM)
    generalize sat64 (S1 + M) = X at *
    have B0 : Hid (Blk (w.alloc (.cells #[.int .i64 a, .int .i64 v, .bool true] 23)) w.heap.size (rtV ⟨a, v, true⟩) 23) := Lib.hid (Blk.new w (rtV ⟨a, v, true⟩) _)
    have L0 := Lib.hid (new_alloc (new_refl w) (.cells #[.int .i64 a, .int .i64 v, .bool true] 23))
    clear bS iV bM
    go_enter Try.func14, Try.ntmps14
    go_upto_region 3 with fail
    have c0 := B0.out.cell 0 rfl
    have c1 := B0.out.cell 1 rfl
    have c2 := B0.out.cell 2 rfl
    go_region_held3 (fun w' => w'.cell? ⟨w.heap.size, 0, none⟩ = some (.int .i64 a) ∧ w'.cell? ⟨w.heap.size, 1, none⟩ = some (.int .i64 v) ∧ w'.cell? ⟨w.heap.size, 2, none⟩ = some (.bool true))
      (first | exact threeR_kept B16 (by assumption) | exact threeR_kept B16 ⟨by assumption, by assumption, by assumption⟩ | go_keep | assumption)
      (first
        | (go_at_call 9; refine (SM.out _).mono ?_; rintro e w3 ⟨rfl, B16⟩; replace B16 := new_undrew B16; have L3 := new_then L0.out B16)
        | (go_at_call 18; refine (KP.out _).mono ?_; rintro e w4 ⟨rfl, B16⟩; have L4 := new_then L3 B16)
        | (go_at_call 20; refine (AD.out _).mono ?_; rintro e w5 ⟨rfl, rfl⟩))
    all_goals
      clear c0 c1 c2
      go_wp2_with (first
        | (go_at_call 16; refine (ends_any _ _ _).mono ?_; rintro e w6 ⟨p, q, rfl, hp, hq, B6, lp, lq⟩)
        | (go_at_call 25; refine (ends1_any _ least most p q _ ?_ ?_).mono ?_; exact hp; exact hq; rintro e w7 ⟨rfl, rfl⟩))
      go_ret
      exact ⟨rfl, new_then L4 B6⟩
end Go.Proofs.Ytlfckllbpkehlaa
