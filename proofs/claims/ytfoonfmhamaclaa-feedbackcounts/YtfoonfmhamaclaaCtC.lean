/- leatlaw19.sent. -/
import Derived.Test.YtfoonfmhamaclaaCtB
import Derived.Test.YtfoonfmhamaclaaRowL
import Derived.Deep.DeepCutAuto
namespace Go.Proofs.Ytfoonfmhamaclaa
open Go.ChangeShapes Go.WideShapes Go.ChangeAt Go.RowKit
set_option linter.unusedVariables false

def SntI (w : World) (ps : List Value) (ks : List Int) (n : Int) (bs : List Bool) (N gh : Nat) (va vb vi : Value) (wr : World) : Prop :=
  ∃ k : Nat, vi = .int .i64 (k : Int) ∧ N - k = gh ∧ k ≤ N ∧ SntAt w wr ps (cfT ks n k) va vb (clsT ks n k) (blsT bs k)
/-- All that came, behind each packet. -/
def SentTo (w : World) (ks : List Int) (n : Int) (bs : List Bool) (N : Nat) (e : Ending) (w' : World) : Prop :=
  ∃ va vb, e = .returned (.tuple #[va, vb]) ∧ OwnE ctV 4 51 w' w.heap.size va (clsT ks n N) ∧ OwnE blV 1 4 w' w.heap.size vb (blsT bs N) ∧ Below w.heap.size w w'
set_option maxHeartbeats 4000000 in
theorem sent_any (m : Int) (A1 A2 A3 : Option Addr) (n1 c1 n2 c2 n3 c3 g2 N : Nat) (ks : List Int) (bs : List Bool) (w : World) (hm : 0 ≤ m ∧ m ≤ 65535) (h1 : IsRow .u8 w A1 n1 c1 ks) (h2 : LbT w g2 A2 bs) (hb : bs.length = n2) (hN : N = min n1 100) :
    Calls Try.prog 13 #[.agg #[.int .u16 m, .slice A1 n1 c1, .slice A2 n2 c2, .slice A3 n3 c3]] w (SentTo w ks (m + 1) bs N) := by
  have HX := Lib.hid h1
  have HB := Lib.hid h2
  have HBL := Lib.hid hb
  have HNN := Lib.hid hN
  have S : Hid (SntAt w ((w.alloc (.cells #[.int .u16 m, .slice A1 n1 c1, .slice A2 n2 c2, .slice A3 n3 c3] 46)).alloc (.cells #[.int .i64 5, .int .i64 0, .int .i64 1, .int .i64 1] 51)) [.int .u16 m, .slice A1 n1 c1, .slice A2 n2 c2, .slice A3 n3 c3] ⟨5, 0, 1, 1⟩ (.slice none 0 0) (.slice none 0 0) [] []) := Lib.hid (snt_start w _)
  have w1 : IntKind.i64.wrap m = m := by rw [IntKind.wrap_i64]; omega
  have w2 : IntKind.i64.wrap (m + 1) = m + 1 := by rw [IntKind.wrap_i64]; omega
  have hn : 1 ≤ m + 1 ∧ m + 1 ≤ 65536 := by omega
  clear h1 h2 hb hN
  unfold SentTo
  go_enter Try.func13, Try.ntmps13
  go_wp2_with fail
  go_loopg [5, 6, 7] N (fun gh va vb vi wr => SntI w [.int .u16 m, .slice A1 n1 c1, .slice A2 n2 c2, .slice A3 n3 c3] ks (m + 1) bs N gh va vb vi wr)
  case atStart => exact ⟨0, rfl, rfl, by omega, S.out⟩
  case round =>
    clear S
    obtain ⟨k, rfl, rfl, hk, C⟩ := hrel
    have HC := Lib.hid C
    have b1 := C.box.cell 1 rfl
    clear C
    have hkn := HNN.out
    by_cases hlt : k < N
    · have i1 : (k : Int) < (n1 : Int) := by omega
      have i2 : (k : Int) < 100 := by omega
      have i0 : (0 : Int) ≤ (k : Int) := by omega
      obtain ⟨bl, off, rfl, e0, hbl, s0⟩ := row_at HX.out (i := k) (by omega)
      replace e0 := cell_low HC.out.low hbl e0
      have hs := bounds_u8 s0
      have CO := cfT_ok ks hn k
      have TK := Lib.hid (fun w => refTakeT_any (cfT ks (m + 1) k) (ks[k]?.getD 0 % 4) (m + 1) k w CO (by omega) hn)
      have HS := Lib.hid (cfT_succ ks (m + 1) k)
      have HL1 := Lib.hid (clsT_succ ks (m + 1) k)
      have HL2 := Lib.hid (blsT_succ bs k)
      rw [← HS.out] at TK
      have t1 : (ks[k]?.getD 0).tmod 4 = ks[k]?.getD 0 % 4 := Int.tmod_eq_emod_of_nonneg hs.1
      have t2 : IntKind.i64.wrap (ks[k]?.getD 0 % 4) = ks[k]?.getD 0 % 4 := by rw [IntKind.wrap_i64]; omega
      have t3 : IntKind.u8.wrap (ks[k]?.getD 0 % 4) = ks[k]?.getD 0 % 4 := by rw [IntKind.wrap_u8]; omega
      clear s0 CO
      generalize ks[k]?.getD 0 = z at *
      obtain ⟨d, hd⟩ : ∃ d, cfT ks (m + 1) (k + 1) = d := ⟨_, rfl⟩
      have HD := Lib.hid hd
      rw [hd] at TK HL1
      clear hd HS
      generalize cfT ks (m + 1) k = c at *
      go_upto_region 7 with (fail)
      have b0 := HC.out.box.cell 0 rfl
      have d0 := HC.out.cnt.cell 0 rfl
      have d1 := HC.out.cnt.cell 1 rfl
      have d2 := HC.out.cnt.cell 2 rfl
      have d3 := HC.out.cnt.cell 3 rfl
      go_cut [32] (fun v wx => SntAt w wx [.int .u16 m, .slice (some ⟨bl, off, none⟩) n1 c1, .slice A2 n2 c2, .slice A3 n3 c3] d u5 u6 (clsT ks (m + 1) k) (blsT bs k))
      case first =>
        go_region_with (first
          | (go_at_call 29; refine (TK.out _).mono ?_; rintro e w5 ⟨rfl, B5⟩
             replace B5 := new_undrew B5
             have q0 := (HC.out.cnt.kept B5).cell 0 rfl
             have q1 := (HC.out.cnt.kept B5).cell 1 rfl
             have q2 := (HC.out.cnt.kept B5).cell 2 rfl
             have q3 := (HC.out.cnt.kept B5).cell 3 rfl
             have f0 := (HC.out.cnt.kept B5).frozen 0
             have f1 := (HC.out.cnt.kept B5).frozen 1
             have f2 := (HC.out.cnt.kept B5).frozen 2
             have f3 := (HC.out.cnt.kept B5).frozen 3))
        all_goals
          go_wp2_with fail
          go_meet
          case rel => exact snt_cnt HC.out B5
      case rest =>
        have HC1 := Lib.hid hcut
        clear hcut HC TK d0 d1 d2 d3 b0 b1 e0 t1 t2 t3 hs
        have q0 := HC1.out.cnt.cell 0 rfl
        have q1 := HC1.out.cnt.cell 1 rfl
        have q2 := HC1.out.cnt.cell 2 rfl
        have q3 := HC1.out.cnt.cell 3 rfl
        have hla := clsT_len ks (m + 1) k
        have hlb := blsT_len bs k
        have hz1 : (clsT ks (m + 1) k).length + 1 = k + 1 := by rw [hla]
        have hz2 : (blsT bs k).length + 1 = k + 1 := by rw [hlb]
        have hz3 : k + 1 ≤ 1000000000 := by omega
        have hb3 : w.heap.size + 2 ≤ wc.heap.size := by have := HC1.out.cnt.lt; omega
        go_upto_region 9 with (first
          | (at_builtin; refine wp_pushE ctE_is strCt (by rfl) _ _ (by rfl) (w.heap.size + 2) _ (clsT ks (m + 1) k) d _ 1 (by rfl) (by rfl) (At.new wc (ctV d) _) (OwnE.alloc HC1.out.ra _) (k + 1) hz1 hz3 (alloc_le hb3 _) _ rfl ?_; intro gA capA wA OA GA hatA hltA))
        have HA := Lib.hid (snt_a HC1.out OA GA hatA)
        clear HC1 OA GA hatA hltA q0 q1 q2 q3 hb3
        have hb4 : w.heap.size + 2 ≤ wA.heap.size := by have := HA.out.cnt.lt; omega
        have p2 := HA.out.box.cell 2 rfl
        have LB := HB.out.kept HA.out.low
        have hbl2 := HBL.out
        by_cases ht : k < n2
        · have j1 : (k : Int) < (n2 : Int) := by omega
          rcases LB with rfl | ⟨off2, rfl, hcl⟩
          · simp at hbl2; omega
          have y0 := hcl k (by omega)
          obtain ⟨y, hy⟩ : ∃ y, bs[k]?.getD false = y := ⟨_, rfl⟩
          have HY := Lib.hid hy
          rw [hy] at y0
          clear hcl hy hbl2
          go_wp2_with (first
            | (at_builtin; refine wp_pushE blE_is strBl (by rfl) _ _ (by rfl) (w.heap.size + 2) _ (blsT bs k) y _ 1 (by rfl) (by rfl) (At.new wA (blV y) _) (OwnE.alloc HA.out.rb _) (k + 1) hz2 hz3 (alloc_le hb4 _) _ rfl ?_; intro gB capB wB OB GB hatB hltB))
          have HZ := snt_b HA.out OB GB hatB
          go_roundg (N - (k + 1))
          case measure => omega
          case rel => exact ⟨k + 1, by go_num, rfl, by omega, by rw [HL1.out, HL2.out, HD.out, HY.out]; exact HZ⟩
        · have j1 : ¬ (k : Int) < (n2 : Int) := by omega
          have j2 : (n2 : Int) ≤ (k : Int) := by omega
          have HY : Hid (bs[k]?.getD false = false) := Lib.hid (by rw [List.getElem?_eq_none (by omega)]; rfl)
          clear LB hbl2
          go_wp2_with (first
            | (at_builtin; refine wp_pushE blE_is strBl (by rfl) _ _ (by rfl) (w.heap.size + 2) _ (blsT bs k) false _ 1 (by rfl) (by rfl) (At.new wA (blV false) _) (OwnE.alloc HA.out.rb _) (k + 1) hz2 hz3 (alloc_le hb4 _) _ rfl ?_; intro gB capB wB OB GB hatB hltB))
          have HZ := snt_b HA.out OB GB hatB
          go_roundg (N - (k + 1))
          case measure => omega
          case rel => exact ⟨k + 1, by go_num, rfl, by omega, by rw [HL1.out, HL2.out, HD.out, HY.out]; exact HZ⟩
    · obtain rfl : k = N := by omega
      have hend : ((k : Int) < (n1 : Int) ∧ ¬ (k : Int) < 100) ∨ ¬ (k : Int) < (n1 : Int) := by omega
      clear hkn
      rcases hend with ⟨h1, h2⟩ | h1
      · have h3 : (100 : Int) ≤ (k : Int) := by omega
        go_wp2_with fail
        exact bodyPost_ret (v := .tuple #[u5, u6]) (by simp [results, Try.results13, go_sem]) rfl ⟨u5, u6, rfl, HC.out.ra.mono (by omega), HC.out.rb.mono (by omega), HC.out.low⟩
      · have h3 : (n1 : Int) ≤ (k : Int) := by omega
        go_wp2_with fail
        exact bodyPost_ret (v := .tuple #[u5, u6]) (by simp [results, Try.results13, go_sem]) rfl ⟨u5, u6, rfl, HC.out.ra.mono (by omega), HC.out.rb.mono (by omega), HC.out.low⟩
end Go.Proofs.Ytfoonfmhamaclaa
