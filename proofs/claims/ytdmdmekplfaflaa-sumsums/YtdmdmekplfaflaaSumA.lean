/- Package sum: round, total, Sum, Verify; the document's Sum; the chapter's example. -/
import Derived.Test.YtdmdmekplfaflaaSumM
import Derived.Test.YtdmdmekplfaflaaCodC
namespace Go.Proofs.Ytdmdmekplfaflaa
open Go.RowKit
set_option linter.unusedVariables false

def RndI (r : Int) (w : World) (gh : Nat) (v : Value) (wr : World) : Prop := ∃ t : Int, v = .int .u64 t ∧ t.toNat = gh ∧ 0 ≤ t ∧ t ≤ 18446744073709551615 ∧ rdS t = r ∧ w = wr
theorem sumRound_any (t : Int) (w : World) (h0 : 0 ≤ t) (h1 : t ≤ 18446744073709551615) :
    Calls Try.prog 14 #[.int .u64 t] w fun e w' => e = .returned (.int .u16 (rdS t)) ∧ w = w' := by
  go_enter Try.func14, Try.ntmps14
  go_wp2_with fail
  go_loopg [0] t.toNat (fun gh v wr => RndI (rdS t) w gh v wr)
  case atStart => exact ⟨t, rfl, rfl, h0, h1, rfl, rfl⟩
  case round =>
    obtain ⟨y, rfl, rfl, y0, y1, hr, rfl⟩ := hrel
    have HR := Lib.hid hr
    clear hr h0 h1
    by_cases hy : 65535 < y
    · have hm := mask16 y ⟨y0, y1⟩
      go_wp2_with fail
      go_roundg (y / 65536 + y % 65536).toNat
      case measure => omega
      case rel => exact ⟨y / 65536 + y % 65536, rfl, rfl, by omega, by omega, by rw [rd_step hy, HR.out], rfl⟩
    · have e1 := rd_low y0 (by omega)
      have e2 : IntKind.u16.wrap y = y := by rw [IntKind.wrap_u16]; omega
      have E1 := Lib.hid e1
      clear e1
      go_wp2_with fail
      go_ret
      exact ⟨ret_int (by rw [← HR.out, E1.out]), rfl⟩

/-- A part: where it lies, and its bytes. -/
structure Pt where
  A : Option Addr
  n : Nat
  c : Nat
  g : Nat
  xs : List Int
def Pt.val (p : Pt) : Value := .slice p.A p.n p.c
def PtAt (w : World) (p : Pt) : Prop := LsK .u8 w p.g p.A p.xs ∧ p.xs.length = p.n ∧ bytS p.xs
theorem PtAt.kept {w w' : World} {p : Pt} (h : PtAt w p) (o : Below w.heap.size w w') : PtAt w' p := ⟨h.1.kept o, h.2⟩
/-- Parts in a row, in block g. -/
def Parts (w : World) (g : Nat) (ps : List Pt) : Prop := At w g (ps.map Pt.val) ∧ ∀ p ∈ ps, PtAt w p
/-- All bytes. -/
def allS (ps : List Pt) : List Int := ps.flatMap Pt.xs
theorem parts_new {w : World} {ps : List Pt} (h : ∀ p ∈ ps, PtAt w p) (t : TypeId) {vs : Array Value} (hv : (ps.map Pt.val).toArray = vs) {g : Nat} (hg : w.heap.size = g) : Parts (w.alloc (.cells vs t)) g ps := by
  subst hv
  exact ⟨At.newAt hg _ t, fun p hp => (h p hp).kept (new_alloc (new_refl w) _)⟩
theorem all_byt {w : World} {ps : List Pt} (h : ∀ p ∈ ps, PtAt w p) : bytS (allS ps) := by
  intro x hx
  simp only [allS, List.mem_flatMap] at hx
  obtain ⟨p, hp, hx⟩ := hx
  exact (h p hp).2.2 x hx
theorem all_take {ps : List Pt} {k : Nat} (h : k < ps.length) : allS (ps.take (k + 1)) = allS (ps.take k) ++ ps[k].xs := by
  rw [List.take_add_one, List.getElem?_eq_getElem h]
  simp only [allS, List.flatMap_append, Option.toList_some, List.flatMap_cons, List.flatMap_nil, List.append_nil]
theorem all_len (ps : List Pt) (k : Nat) : (allS (ps.take k)).length ≤ (allS ps).length := by
  have : allS ps = allS (ps.take k) ++ allS (ps.drop k) := by rw [allS, allS, allS, ← List.flatMap_append, List.take_append_drop]
  rw [this, List.length_append]; omega

/-- Where the next byte goes. -/
def upS (n : Nat) : Int := if n % 2 = 0 then 8 else 0
def TotI (ps : List Pt) (L : Nat) (w : World) (gh : Nat) (vt vu vi : Value) (wr : World) : Prop :=
  ∃ k : Nat, vi = .int .i64 (k : Int) ∧ L - k = gh ∧ k ≤ L ∧ vt = .int .u64 (smS 0 (allS (ps.take k))) ∧ vu = .int .i64 (upS (allS (ps.take k)).length) ∧ w = wr
def TotJ (T : List Int) (xs : List Int) (n : Nat) (w : World) (gh : Nat) (vt vu vi : Value) (wr : World) : Prop :=
  ∃ j : Nat, vi = .int .i64 (j : Int) ∧ n - j = gh ∧ j ≤ n ∧ vt = .int .u64 (smS 0 (T ++ xs.take j)) ∧ vu = .int .i64 (upS (T.length + j)) ∧ w = wr

set_option maxHeartbeats 1000000 in
theorem total_any (g : Nat) (ps : List Pt) (L c : Nat) (w : World) (h : Parts w g ps) (hL : ps.length = L) (hn : (allS ps).length ≤ 1000000) (hL1 : L ≤ 1000) :
    Calls Try.prog 15 #[.slice (some ⟨g, 0, none⟩) L c] w fun e w' => e = .returned (.int .u64 (smS 0 (allS ps))) ∧ w = w' := by
  have HP := Lib.hid h
  have HL := Lib.hid hL
  have HN := Lib.hid hn
  clear h hL hn
  go_enter Try.func15, Try.ntmps15
  go_wp2_with fail
  go_loopg [3, 4, 11] L (fun gh vt vu vi wr => TotI ps L w gh vt vu vi wr)
  case atStart => exact ⟨0, rfl, rfl, by omega, rfl, rfl, rfl⟩
  case round =>
    obtain ⟨k, rfl, rfl, hk, rfl, rfl, rfl⟩ := hrel
    by_cases hlt : k < L
    · have k0 : (0 : Int) ≤ (k : Int) := by omega
      have k1 : (k : Int) < (L : Int) := by omega
      have hk2 : k < ps.length := by rw [HL.out]; exact hlt
      have hc := HP.out.1.cell k (v := ps[k].val) (by rw [List.getElem?_map, List.getElem?_eq_getElem hk2]; rfl)
      have hp := HP.out.2 ps[k] (List.getElem_mem _)
      have ET := Lib.hid (all_take hk2)
      have hle := all_len ps (k + 1)
      rw [ET.out, List.length_append] at hle
      have hb0 : bytS (allS (ps.take k)) := all_byt (fun p hp => HP.out.2 p (List.mem_of_mem_take hp))
      generalize allS (ps.take k) = T at ET hle hb0 ⊢
      generalize ps[k] = p at hc hp ET hle
      obtain ⟨A, n, cp, gp, xs⟩ := p
      obtain ⟨hls, hxn, hby⟩ := hp
      simp only [Pt.val] at hc hls hxn hby ET hle
      have hlen := HN.out
      have HLS := Lib.hid hls
      have HX := Lib.hid hxn
      have HB := Lib.hid hby
      have H0 := Lib.hid hb0
      have HE := Lib.hid hle
      have hn1 : n ≤ 1000000 := by omega
      clear hls hxn hby hb0 hle hlen hk2
      have HC := Lib.hid hc
      go_wp2_with fail
      go_loopg [3, 4, 17] n (fun gh vt vu vi wr => TotJ T xs n w gh vt vu vi wr)
      case atStart => exact ⟨0, rfl, rfl, by omega, by simp, by simp, rfl⟩
      case round =>
        clear hc
        obtain ⟨j, rfl, rfl, hj, rfl, rfl, rfl⟩ := hrel
        by_cases hjt : j < n
        · have j0 : (0 : Int) ≤ (j : Int) := by omega
          have j1 : (j : Int) < (n : Int) := by omega
          have hj2 : j < xs.length := by rw [HX.out]; exact hjt
          have hxj := byt_at HB.out hj2
          obtain ⟨x0, x1⟩ := hxj
          have ES : Hid (smS 0 (T ++ xs.take (j + 1)) = smS 0 (T ++ xs.take j) + wtS (T.length + j) * (xs[j]?.getD 0)) := Lib.hid (by
            rw [sm_app, sm_app, sm_snoc _ hj2]; simp only [Nat.zero_add]; omega)
          have hbd := sm_bd 0 _ (byt_app H0.out (byt_take HB.out j))
          have hbl : ((T ++ xs.take j).length : Int) ≤ 1000000 := by
            have h1 := HE.out; have h2 := HN.out
            rw [List.length_append, List.length_take]; omega
          rcases HLS.out with h0 | ⟨off, rfl, hcx⟩
          · simp [h0] at hj2
          have c0 := hcx j hj2
          generalize xs[j]?.getD 0 = x at c0 ES x0 x1
          generalize smS 0 (T ++ xs.take j) = t at ES hbd ⊢
          obtain ⟨t0, t1⟩ := hbd
          have t2 : t ≤ 65280000000 := by omega
          clear hcx hj2 hbl t1
          by_cases hev : (T.length + j) % 2 = 0
          · have eu : upS (T.length + j) = 8 := by unfold upS; rw [if_pos hev]
            have EU : Hid (upS (T.length + (j + 1)) = 0) := Lib.hid (by unfold upS; rw [if_neg (by omega)])
            have EW := Lib.hid (wt_even hev)
            rw [eu]
            clear eu hev
            go_wp2_with fail
            go_roundg (n - (j + 1))
            case measure => omega
            case rel => exact ⟨j + 1, by go_num, rfl, by omega, by rw [ES.out, EW.out]; congr 1; omega, by rw [EU.out], rfl⟩
          · have eu : upS (T.length + j) = 0 := by unfold upS; rw [if_neg hev]
            have EU : Hid (upS (T.length + (j + 1)) = 8) := Lib.hid (by unfold upS; rw [if_pos (by omega)])
            have EW := Lib.hid (wt_odd hev)
            rw [eu]
            clear eu hev
            go_wp2_with fail
            go_roundg (n - (j + 1))
            case measure => omega
            case rel => exact ⟨j + 1, by go_num, rfl, by omega, by rw [ES.out, EW.out]; congr 1; omega, by rw [EU.out], rfl⟩
        · obtain rfl : j = n := by omega
          have e1 : xs.take j = xs := List.take_of_length_le (by have := HX.out; omega)
          have EL : Hid ((T ++ xs).length = T.length + j) := Lib.hid (by rw [List.length_append, HX.out])
          rw [e1]
          clear e1
          go_wp2_with fail
          go_roundg (L - (k + 1))
          case measure => omega
          case rel => exact ⟨k + 1, by go_num, rfl, by omega, by rw [ET.out], by rw [ET.out, EL.out], rfl⟩
    · obtain rfl : k = L := by omega
      have e1 : ps.take k = ps := List.take_of_length_le (by have := HL.out; omega)
      rw [e1]
      clear e1
      go_wp2_with fail
      go_ret
      exact ⟨rfl, rfl⟩

/-- The checksum of bytes. -/
def ckS (xs : List Int) : Int := 65535 - rdS (smS 0 xs)
theorem sum_bd {xs : List Int} (h : bytS xs) : 0 ≤ ckS xs ∧ ckS xs ≤ 65535 := by
  have := rdS_bd (sm_bd 0 _ h).1
  unfold ckS; omega
theorem sumAll_any (g : Nat) (ps : List Pt) (L c : Nat) (w : World) (h : Parts w g ps) (hL : ps.length = L) (hn : (allS ps).length ≤ 1000000) (hL1 : L ≤ 1000) :
    Calls Try.prog 6 #[.slice (some ⟨g, 0, none⟩) L c] w fun e w' => e = .returned (.int .u16 (ckS (allS ps))) ∧ w = w' := by
  have HP := Lib.hid h
  have HL := Lib.hid hL
  have HN := Lib.hid hn
  obtain ⟨t0, t1⟩ := sm_bd 0 _ (all_byt h.2)
  have t2 : smS 0 (allS ps) ≤ 18446744073709551615 := by omega
  have hr := rdS_bd t0
  have ES : Hid (ckS (allS ps) = 65535 - rdS (smS 0 (allS ps))) := Lib.hid rfl
  clear h hL hn t1
  obtain ⟨r0, r1⟩ := hr
  go_enter Try.func6, Try.ntmps6
  go_wp2_with (first
    | (go_at_call 15; refine (total_any g ps L c _ HP.out HL.out HN.out hL1).mono ?_; rintro e w' ⟨rfl, rfl⟩)
    | (go_at_call 14; refine (sumRound_any _ _ t0 t2).mono ?_; rintro e w' ⟨rfl, rfl⟩))
  go_ret
  exact ⟨ret_int (by rw [ES.out]), rfl⟩
theorem verAll_any (g : Nat) (ps : List Pt) (L c : Nat) (w : World) (h : Parts w g ps) (hL : ps.length = L) (hn : (allS ps).length ≤ 1000000) (hL1 : L ≤ 1000) :
    Calls Try.prog 8 #[.slice (some ⟨g, 0, none⟩) L c] w fun e w' => e = .returned (.bool (decide (ckS (allS ps) = 0))) ∧ w = w' := by
  have HP := Lib.hid h
  have HL := Lib.hid hL
  have HN := Lib.hid hn
  clear h hL hn
  go_enter Try.func8, Try.ntmps8
  go_wp2_with (first
    | (go_at_call 6; refine (sumAll_any g ps L c _ HP.out HL.out HN.out hL1).mono ?_; rintro e w' ⟨rfl, rfl⟩))
  go_ret
  exact ⟨rfl, rfl⟩
end Go.Proofs.Ytdmdmekplfaflaa
