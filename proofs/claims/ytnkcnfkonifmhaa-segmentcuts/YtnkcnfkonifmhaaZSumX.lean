/- Plain facts on sums of bytes' words that go round. -/
import Derived.Test.YtnkcnfkonifmhaaZLow
import Derived.Test.YtnkcnfkonifmhaaZRowsK
import Derived.Deep.DeepCutAuto
namespace Go.Proofs.Ytnkcnfkonifmhaa
set_option linter.unusedVariables false

/-- What a byte at place i counts. -/
def wtS (i : Nat) : Int := if i % 2 = 0 then 256 else 1
/-- The sum of bytes, the first one at place i. -/
def smS : Nat → List Int → Int
  | _, [] => 0
  | i, x :: xs => wtS i * x + smS (i + 1) xs
/-- A sum that goes round. -/
def rdS (t : Int) : Int := if t = 0 then 0 else (t - 1) % 65535 + 1
theorem wt_two (i : Nat) : wtS (i + 2) = wtS i := by unfold wtS; rw [Nat.add_mod_right]
theorem wt_even {i : Nat} (h : i % 2 = 0) : wtS i = 256 := by unfold wtS; rw [if_pos h]
theorem wt_odd {i : Nat} (h : ¬ i % 2 = 0) : wtS i = 1 := by unfold wtS; rw [if_neg h]
theorem sm_app : ∀ (i : Nat) (xs ys : List Int), smS i (xs ++ ys) = smS i xs + smS (i + xs.length) ys
  | i, [], ys => by simp [smS]
  | i, x :: xs, ys => by
    have := sm_app (i + 1) xs ys
    simp only [List.cons_append, smS, this, List.length_cons, Int.add_assoc]
    rw [show i + 1 + xs.length = i + (xs.length + 1) by omega]
theorem sm_two : ∀ (i : Nat) (xs : List Int), smS (i + 2) xs = smS i xs
  | _, [] => rfl
  | i, x :: xs => by
    have := sm_two (i + 1) xs
    simp only [smS, wt_two]
    rw [show i + 2 + 1 = i + 1 + 2 by omega, this]
theorem sm_even (i : Nat) (xs : List Int) : ∀ n : Nat, smS (i + 2 * n) xs = smS i xs
  | 0 => rfl
  | n + 1 => by rw [show i + 2 * (n + 1) = i + 2 * n + 2 by omega, sm_two, sm_even i xs n]
theorem sm_ev {n : Nat} (h : n % 2 = 0) (xs : List Int) : smS n xs = smS 0 xs := by
  have := sm_even 0 xs (n / 2)
  rwa [show 0 + 2 * (n / 2) = n by omega] at this
theorem sm_one (i : Nat) (x : Int) : smS i [x] = wtS i * x := by simp [smS]
theorem sm_snoc (i : Nat) {xs : List Int} {k : Nat} (h : k < xs.length) : smS i (xs.take (k + 1)) = smS i (xs.take k) + wtS (i + k) * (xs[k]?.getD 0) := by
  rw [take_snoc7 h, sm_app, sm_one, List.length_take, Nat.min_eq_left (by omega)]
theorem sm_bd : ∀ (i : Nat) (xs : List Int), bytS xs → 0 ≤ smS i xs ∧ smS i xs ≤ 65280 * (xs.length : Int)
  | _, [], _ => by simp [smS]
  | i, x :: xs, h => by
    have h1 := sm_bd (i + 1) xs (fun y hy => h y (List.mem_cons_of_mem _ hy))
    have h2 := h x (by simp)
    simp only [smS, List.length_cons]
    unfold wtS
    split <;> omega
theorem rdS_bd {t : Int} (h : 0 ≤ t) : 0 ≤ rdS t ∧ rdS t ≤ 65535 := by unfold rdS; split <;> omega
theorem rd_low {t : Int} (h : 0 ≤ t) (h1 : t ≤ 65535) : rdS t = t := by unfold rdS; split <;> omega
theorem rd_step {t : Int} (h : 65535 < t) : rdS (t / 65536 + t % 65536) = rdS t := by
  unfold rdS
  rw [if_neg (by omega), if_neg (by omega)]
  omega
theorem rd_add {a v : Int} (h : 0 ≤ a) (h0 : 0 ≤ v) (h1 : v ≤ 65535) : rdS (a + v) = if 65535 < rdS a + v then rdS a + v - 65536 + 1 else rdS a + v := by
  unfold rdS
  split <;> split <;> split <;> omega
theorem rd_full {t : Int} (h : 0 ≤ t) : rdS (t + (65535 - rdS t)) = 65535 := by
  unfold rdS
  split <;> split <;> omega
theorem mask16 (x : Int) (h : 0 ≤ x ∧ x ≤ 18446744073709551615) : bits .and .u64 x 65535 = x % 65536 :=
  bits_mask .u64 64 (by decide) wraps_u64 16 (by decide) x h.1 (by omega)

/-- Two bytes put at a place. -/
def fillS (zs : List Int) (p : Nat) (a b : Int) : List Int := zs.take p ++ a :: b :: zs.drop (p + 2)
theorem fill_len {zs : List Int} {p : Nat} (a b : Int) (h : p + 2 ≤ zs.length) : (fillS zs p a b).length = zs.length := by
  simp only [fillS, List.length_append, List.length_take, List.length_cons, List.length_drop]; omega
theorem fill_set {zs : List Int} {p : Nat} (a b : Int) (h : p + 2 ≤ zs.length) : (zs.set p a).set (p + 1) b = fillS zs p a b := by
  apply List.ext_getElem?
  intro i
  have hl : (zs.take p).length = p := by rw [List.length_take]; omega
  rw [fillS, List.getElem?_append, hl, List.getElem?_set, List.getElem?_set, List.length_set]
  by_cases h1 : i < p
  · rw [if_pos h1, if_neg (by omega), if_neg (by omega), List.getElem?_take, if_pos h1]
  · rw [if_neg h1]
    by_cases h2 : p + 1 = i
    · subst h2
      rw [if_pos rfl, if_pos (by omega), show p + 1 - p = 1 by omega]
      simp
    · rw [if_neg h2]
      by_cases h3 : p = i
      · subst h3
        rw [if_pos rfl, if_pos (by omega), Nat.sub_self]
        simp
      · rw [if_neg h3, show i - p = (i - p - 2) + 1 + 1 by omega, List.getElem?_cons_succ, List.getElem?_cons_succ, List.getElem?_drop]
        congr 1; omega
theorem fill_fill {zs : List Int} {p : Nat} (a b c d : Int) (h : p + 2 ≤ zs.length) : fillS (fillS zs p a b) p c d = fillS zs p c d := by
  have hl : (zs.take p).length = p := by rw [List.length_take]; omega
  have e1 : (fillS zs p a b).take p = zs.take p := by rw [fillS, List.take_append_of_le_length (by omega), List.take_of_length_le (by omega)]
  have e2 : (fillS zs p a b).drop (p + 2) = zs.drop (p + 2) := by
    rw [fillS, List.drop_append, hl, List.drop_eq_nil_of_le (by omega), show p + 2 - p = 2 by omega]
    simp
  rw [fillS, e1, e2, fillS]
theorem fill_byt {zs : List Int} {p : Nat} {a b : Int} (h : bytS zs) (ha : 0 ≤ a ∧ a ≤ 255) (hb : 0 ≤ b ∧ b ≤ 255) : bytS (fillS zs p a b) := by
  refine byt_app (byt_take h p) ?_
  intro x hx
  simp only [List.mem_cons] at hx
  rcases hx with rfl | rfl | hx
  · exact ha
  · exact hb
  · exact byt_drop h _ x hx
theorem fill_sm {zs : List Int} {p : Nat} (a b : Int) (h : p + 2 ≤ zs.length) (hp : p % 2 = 0) : smS 0 (fillS zs p a b) = smS 0 (fillS zs p 0 0) + (256 * a + b) := by
  have hl : (zs.take p).length = p := by rw [List.length_take]; omega
  simp only [fillS, sm_app, hl, smS, Nat.zero_add]
  rw [wt_even hp, wt_odd (by omega)]
  omega
/-- The checksum that is filled in. -/
def chkS (zs : List Int) (p : Nat) : Int := 65535 - rdS (smS 0 (fillS zs p 0 0))
theorem chk_bd {zs : List Int} (h : bytS zs) (p : Nat) : 0 ≤ chkS zs p ∧ chkS zs p ≤ 65535 := by
  have := rdS_bd (sm_bd 0 _ (fill_byt (p := p) (a := 0) (b := 0) h (by omega) (by omega))).1
  unfold chkS; omega
/-- What is filled. -/
def filS (zs : List Int) (p : Nat) : List Int := fillS zs p (chkS zs p / 256) (chkS zs p % 256)
theorem fil_byt {zs : List Int} (h : bytS zs) (p : Nat) : bytS (filS zs p) := by
  have := chk_bd h p
  exact fill_byt h (by omega) (by omega)
theorem fil_full {zs : List Int} {p : Nat} (h : p + 2 ≤ zs.length) (hp : p % 2 = 0) (hb : bytS zs) : rdS (smS 0 (filS zs p)) = 65535 := by
  have h0 := (sm_bd 0 _ (fill_byt (p := p) (a := 0) (b := 0) hb (by omega) (by omega))).1
  have e : 256 * (chkS zs p / 256) + chkS zs p % 256 = chkS zs p := by omega
  rw [filS, fill_sm _ _ h hp, e]
  exact rd_full h0
end Go.Proofs.Ytnkcnfkonifmhaa
namespace Go.Proofs.Ytnkcnfkonifmhaa
open Go.RowKit
set_option linter.unusedVariables false

def RndI (r : Int) (w : World) (gh : Nat) (v : Value) (wr : World) : Prop := ∃ t : Int, v = .int .u64 t ∧ t.toNat = gh ∧ 0 ≤ t ∧ t ≤ 18446744073709551615 ∧ rdS t = r ∧ w = wr
theorem sumRound_any (t : Int) (w : World) (h0 : 0 ≤ t) (h1 : t ≤ 18446744073709551615) :
    Calls Try.prog 39 #[.int .u64 t] w fun e w' => e = .returned (.int .u16 (rdS t)) ∧ w = w' := by
  go_enter Try.func39, Try.ntmps39
  go_wp2_with fail
  go_loopg [0] t.toNat (fun gh v wr => RndI (rdS t) w gh v wr)
  case atStart => exact ⟨t, rfl, rfl, h0, h1, rfl, rfl⟩
  case round =>
    obtain ⟨y, rfl, rfl, y0, y1, hr, rfl⟩ := hrel
    have HR := Lib.hid hr
    clear hr h0 h1
    by_cases hy : 65535 < y
    · have hm := mask16 y ⟨y0, y1⟩
      go_wp2_with fail
      go_roundg (y / 65536 + y % 65536).toNat
      case measure => omega
      case rel => exact ⟨y / 65536 + y % 65536, rfl, rfl, by omega, by omega, by rw [rd_step hy, HR.out], rfl⟩
    · have e1 := rd_low y0 (by omega)
      have e2 : IntKind.u16.wrap y = y := by rw [IntKind.wrap_u16]; omega
      have E1 := Lib.hid e1
      clear e1
      go_wp2_with fail
      go_ret
      exact ⟨ret_int (by rw [← HR.out, E1.out]), rfl⟩

/-- A part: where it lies, and its bytes. -/
structure Pt where
  A : Option Addr
  n : Nat
  c : Nat
  g : Nat
  xs : List Int
def Pt.val (p : Pt) : Value := .slice p.A p.n p.c
def PtAt (w : World) (p : Pt) : Prop := LsK .u8 w p.g p.A p.xs ∧ p.xs.length = p.n ∧ bytS p.xs
theorem PtAt.kept {w w' : World} {p : Pt} (h : PtAt w p) (o : Below w.heap.size w w') : PtAt w' p := ⟨h.1.kept o, h.2⟩
/-- Parts in a row, in block g. -/
def Parts (w : World) (g : Nat) (ps : List Pt) : Prop := At w g (ps.map Pt.val) ∧ ∀ p ∈ ps, PtAt w p
/-- All bytes. -/
def allS (ps : List Pt) : List Int := ps.flatMap Pt.xs
theorem parts_new {w : World} {ps : List Pt} (h : ∀ p ∈ ps, PtAt w p) (t : TypeId) {vs : Array Value} (hv : (ps.map Pt.val).toArray = vs) {g : Nat} (hg : w.heap.size = g) : Parts (w.alloc (.cells vs t)) g ps := by
  subst hv
  exact ⟨At.newAt hg _ t, fun p hp => (h p hp).kept (new_alloc (new_refl w) _)⟩
theorem all_byt {w : World} {ps : List Pt} (h : ∀ p ∈ ps, PtAt w p) : bytS (allS ps) := by
  intro x hx
  simp only [allS, List.mem_flatMap] at hx
  obtain ⟨p, hp, hx⟩ := hx
  exact (h p hp).2.2 x hx
theorem all_take {ps : List Pt} {k : Nat} (h : k < ps.length) : allS (ps.take (k + 1)) = allS (ps.take k) ++ ps[k].xs := by
  rw [List.take_add_one, List.getElem?_eq_getElem h]
  simp only [allS, List.flatMap_append, Option.toList_some, List.flatMap_cons, List.flatMap_nil, List.append_nil]
theorem all_len (ps : List Pt) (k : Nat) : (allS (ps.take k)).length ≤ (allS ps).length := by
  have : allS ps = allS (ps.take k) ++ allS (ps.drop k) := by rw [allS, allS, allS, ← List.flatMap_append, List.take_append_drop]
  rw [this, List.length_append]; omega

/-- Where the next byte goes. -/
def upS (n : Nat) : Int := if n % 2 = 0 then 8 else 0
def TotI (ps : List Pt) (L : Nat) (w : World) (gh : Nat) (vt vu vi : Value) (wr : World) : Prop :=
  ∃ k : Nat, vi = .int .i64 (k : Int) ∧ L - k = gh ∧ k ≤ L ∧ vt = .int .u64 (smS 0 (allS (ps.take k))) ∧ vu = .int .i64 (upS (allS (ps.take k)).length) ∧ w = wr
def TotJ (T : List Int) (xs : List Int) (n : Nat) (w : World) (gh : Nat) (vt vu vi : Value) (wr : World) : Prop :=
  ∃ j : Nat, vi = .int .i64 (j : Int) ∧ n - j = gh ∧ j ≤ n ∧ vt = .int .u64 (smS 0 (T ++ xs.take j)) ∧ vu = .int .i64 (upS (T.length + j)) ∧ w = wr

set_option maxHeartbeats 1000000 in
theorem total_any (g : Nat) (ps : List Pt) (L c : Nat) (w : World) (h : Parts w g ps) (hL : ps.length = L) (hn : (allS ps).length ≤ 1000000) (hL1 : L ≤ 1000) :
    Calls Try.prog 40 #[.slice (some ⟨g, 0, none⟩) L c] w fun e w' => e = .returned (.int .u64 (smS 0 (allS ps))) ∧ w = w' := by
  have HP := Lib.hid h
  have HL := Lib.hid hL
  have HN := Lib.hid hn
  clear h hL hn
  go_enter Try.func40, Try.ntmps40
  go_wp2_with fail
  go_loopg [3, 4, 11] L (fun gh vt vu vi wr => TotI ps L w gh vt vu vi wr)
  case atStart => exact ⟨0, rfl, rfl, by omega, rfl, rfl, rfl⟩
  case round =>
    obtain ⟨k, rfl, rfl, hk, rfl, rfl, rfl⟩ := hrel
    by_cases hlt : k < L
    · have k0 : (0 : Int) ≤ (k : Int) := by omega
      have k1 : (k : Int) < (L : Int) := by omega
      have hk2 : k < ps.length := by rw [HL.out]; exact hlt
      have hc := HP.out.1.cell k (v := ps[k].val) (by rw [List.getElem?_map, List.getElem?_eq_getElem hk2]; rfl)
      have hp := HP.out.2 ps[k] (List.getElem_mem _)
      have ET := Lib.hid (all_take hk2)
      have hle := all_len ps (k + 1)
      rw [ET.out, List.length_append] at hle
      have hb0 : bytS (allS (ps.take k)) := all_byt (fun p hp => HP.out.2 p (List.mem_of_mem_take hp))
      generalize allS (ps.take k) = T at ET hle hb0 ⊢
      generalize ps[k] = p at hc hp ET hle
      obtain ⟨A, n, cp, gp, xs⟩ := p
      obtain ⟨hls, hxn, hby⟩ := hp
      simp only [Pt.val] at hc hls hxn hby ET hle
      have hlen := HN.out
      have HLS := Lib.hid hls
      have HX := Lib.hid hxn
      have HB := Lib.hid hby
      have H0 := Lib.hid hb0
      have HE := Lib.hid hle
      have hn1 : n ≤ 1000000 := by omega
      clear hls hxn hby hb0 hle hlen hk2
      have HC := Lib.hid hc
      go_wp2_with fail
      go_loopg [3, 4, 17] n (fun gh vt vu vi wr => TotJ T xs n w gh vt vu vi wr)
      case atStart => exact ⟨0, rfl, rfl, by omega, by simp, by simp, rfl⟩
      case round =>
        clear hc
        obtain ⟨j, rfl, rfl, hj, rfl, rfl, rfl⟩ := hrel
        by_cases hjt : j < n
        · have j0 : (0 : Int) ≤ (j : Int) := by omega
          have j1 : (j : Int) < (n : Int) := by omega
          have hj2 : j < xs.length := by rw [HX.out]; exact hjt
          have hxj := byt_at HB.out hj2
          obtain ⟨x0, x1⟩ := hxj
          have ES : Hid (smS 0 (T ++ xs.take (j + 1)) = smS 0 (T ++ xs.take j) + wtS (T.length + j) * (xs[j]?.getD 0)) := Lib.hid (by
            rw [sm_app, sm_app, sm_snoc _ hj2]; simp only [Nat.zero_add]; omega)
          have hbd := sm_bd 0 _ (byt_app H0.out (byt_take HB.out j))
          have hbl : ((T ++ xs.take j).length : Int) ≤ 1000000 := by
            have h1 := HE.out; have h2 := HN.out
            rw [List.length_append, List.length_take]; omega
          rcases HLS.out with h0 | ⟨off, rfl, hcx⟩
          · simp [h0] at hj2
          have c0 := hcx j hj2
          generalize xs[j]?.getD 0 = x at c0 ES x0 x1
          generalize smS 0 (T ++ xs.take j) = t at ES hbd ⊢
          obtain ⟨t0, t1⟩ := hbd
          have t2 : t ≤ 65280000000 := by omega
          clear hcx hj2 hbl t1
          by_cases hev : (T.length + j) % 2 = 0
          · have eu : upS (T.length + j) = 8 := by unfold upS; rw [if_pos hev]
            have EU : Hid (upS (T.length + (j + 1)) = 0) := Lib.hid (by unfold upS; rw [if_neg (by omega)])
            have EW := Lib.hid (wt_even hev)
            rw [eu]
            clear eu hev
            go_wp2_with fail
            go_roundg (n - (j + 1))
            case measure => omega
            case rel => exact ⟨j + 1, by go_num, rfl, by omega, by rw [ES.out, EW.out]; congr 1; omega, by rw [EU.out], rfl⟩
          · have eu : upS (T.length + j) = 0 := by unfold upS; rw [if_neg hev]
            have EU : Hid (upS (T.length + (j + 1)) = 8) := Lib.hid (by unfold upS; rw [if_pos (by omega)])
            have EW := Lib.hid (wt_odd hev)
            rw [eu]
            clear eu hev
            go_wp2_with fail
            go_roundg (n - (j + 1))
            case measure => omega
            case rel => exact ⟨j + 1, by go_num, rfl, by omega, by rw [ES.out, EW.out]; congr 1; omega, by rw [EU.out], rfl⟩
        · obtain rfl : j = n := by omega
          have e1 : xs.take j = xs := List.take_of_length_le (by have := HX.out; omega)
          have EL : Hid ((T ++ xs).length = T.length + j) := Lib.hid (by rw [List.length_append, HX.out])
          rw [e1]
          clear e1
          go_wp2_with fail
          go_roundg (L - (k + 1))
          case measure => omega
          case rel => exact ⟨k + 1, by go_num, rfl, by omega, by rw [ET.out], by rw [ET.out, EL.out], rfl⟩
    · obtain rfl : k = L := by omega
      have e1 : ps.take k = ps := List.take_of_length_le (by have := HL.out; omega)
      rw [e1]
      clear e1
      go_wp2_with fail
      go_ret
      exact ⟨rfl, rfl⟩

/-- The checksum of bytes. -/
def ckS (xs : List Int) : Int := 65535 - rdS (smS 0 xs)
theorem sum_bd {xs : List Int} (h : bytS xs) : 0 ≤ ckS xs ∧ ckS xs ≤ 65535 := by
  have := rdS_bd (sm_bd 0 _ h).1
  unfold ckS; omega
theorem sumAll_any (g : Nat) (ps : List Pt) (L c : Nat) (w : World) (h : Parts w g ps) (hL : ps.length = L) (hn : (allS ps).length ≤ 1000000) (hL1 : L ≤ 1000) :
    Calls Try.prog 21 #[.slice (some ⟨g, 0, none⟩) L c] w fun e w' => e = .returned (.int .u16 (ckS (allS ps))) ∧ w = w' := by
  have HP := Lib.hid h
  have HL := Lib.hid hL
  have HN := Lib.hid hn
  obtain ⟨t0, t1⟩ := sm_bd 0 _ (all_byt h.2)
  have t2 : smS 0 (allS ps) ≤ 18446744073709551615 := by omega
  have hr := rdS_bd t0
  have ES : Hid (ckS (allS ps) = 65535 - rdS (smS 0 (allS ps))) := Lib.hid rfl
  clear h hL hn t1
  obtain ⟨r0, r1⟩ := hr
  go_enter Try.func21, Try.ntmps21
  go_wp2_with (first
    | (go_at_call 40; refine (total_any g ps L c _ HP.out HL.out HN.out hL1).mono ?_; rintro e w' ⟨rfl, rfl⟩)
    | (go_at_call 39; refine (sumRound_any _ _ t0 t2).mono ?_; rintro e w' ⟨rfl, rfl⟩))
  go_ret
  exact ⟨ret_int (by rw [ES.out]), rfl⟩
theorem verAll_any (g : Nat) (ps : List Pt) (L c : Nat) (w : World) (h : Parts w g ps) (hL : ps.length = L) (hn : (allS ps).length ≤ 1000000) (hL1 : L ≤ 1000) :
    Calls Try.prog 29 #[.slice (some ⟨g, 0, none⟩) L c] w fun e w' => e = .returned (.bool (decide (ckS (allS ps) = 0))) ∧ w = w' := by
  have HP := Lib.hid h
  have HL := Lib.hid hL
  have HN := Lib.hid hn
  clear h hL hn
  go_enter Try.func29, Try.ntmps29
  go_wp2_with (first
    | (go_at_call 21; refine (sumAll_any g ps L c _ HP.out HL.out HN.out hL1).mono ?_; rintro e w' ⟨rfl, rfl⟩))
  go_ret
  exact ⟨rfl, rfl⟩
end Go.Proofs.Ytnkcnfkonifmhaa
namespace Go.Proofs.Ytnkcnfkonifmhaa
open Go.RowKit
set_option linter.unusedVariables false

theorem pt_low {w : World} {p : Pt} (h : PtAt w p) (hn : p.n ≤ 100000) : p.xs.length ≤ 100000 := by rw [h.2.1]; exact hn
theorem sumOne_any (p : Pt) (w : World) (t : TypeId) (g : Nat) (hg : w.heap.size = g) (h : PtAt w p) (hn : p.n ≤ 100000) :
    Calls Try.prog 21 #[.slice (some ⟨g, 0, none⟩) 1 1] (w.alloc (.cells #[.slice p.A p.n p.c] t)) fun e w' => e = .returned (.int .u16 (ckS p.xs)) ∧ w.alloc (.cells #[.slice p.A p.n p.c] t) = w' := by
  subst hg
  have e : allS [p] = p.xs := by simp [allS]
  have := sumAll_any w.heap.size [p] 1 1 _ (parts_new (by simpa using h) t (vs := #[.slice p.A p.n p.c]) rfl rfl) rfl (by rw [e]; have := pt_low h hn; omega) (by decide)
  rwa [e] at this
theorem verOne_any (p : Pt) (w : World) (t : TypeId) (g : Nat) (hg : w.heap.size = g) (h : PtAt w p) (hn : p.n ≤ 100000) :
    Calls Try.prog 29 #[.slice (some ⟨g, 0, none⟩) 1 1] (w.alloc (.cells #[.slice p.A p.n p.c] t)) fun e w' => e = .returned (.bool (decide (ckS p.xs = 0))) ∧ w.alloc (.cells #[.slice p.A p.n p.c] t) = w' := by
  subst hg
  have e : allS [p] = p.xs := by simp [allS]
  have := verAll_any w.heap.size [p] 1 1 _ (parts_new (by simpa using h) t (vs := #[.slice p.A p.n p.c]) rfl rfl) rfl (by rw [e]; have := pt_low h hn; omega) (by decide)
  rwa [e] at this
theorem sumTwo_any (p q : Pt) (w : World) (t : TypeId) (g : Nat) (hg : w.heap.size = g) (h : PtAt w p) (h' : PtAt w q) (hn : p.n ≤ 100000) (hn' : q.n ≤ 100000) :
    Calls Try.prog 21 #[.slice (some ⟨g, 0, none⟩) 2 2] (w.alloc (.cells #[.slice p.A p.n p.c, .slice q.A q.n q.c] t)) fun e w' => e = .returned (.int .u16 (ckS (p.xs ++ q.xs))) ∧ w.alloc (.cells #[.slice p.A p.n p.c, .slice q.A q.n q.c] t) = w' := by
  subst hg
  have e : allS [p, q] = p.xs ++ q.xs := by simp [allS]
  have := sumAll_any w.heap.size [p, q] 2 2 _ (parts_new (by simpa using ⟨h, h'⟩) t (vs := #[.slice p.A p.n p.c, .slice q.A q.n q.c]) rfl rfl) rfl (by rw [e, List.length_append]; have := pt_low h hn; have := pt_low h' hn'; omega) (by decide)
  rwa [e] at this
theorem sumThree_any (p q : Pt) (w : World) (t : TypeId) (g : Nat) (hg : w.heap.size = g) (h : PtAt w p) (h' : PtAt w q) (hn : p.n ≤ 100000) (hn' : q.n ≤ 100000) :
    Calls Try.prog 21 #[.slice (some ⟨g, 0, none⟩) 3 3] (w.alloc (.cells #[.slice p.A p.n p.c, .slice none 0 0, .slice q.A q.n q.c] t)) fun e w' => e = .returned (.int .u16 (ckS (p.xs ++ q.xs))) ∧ w.alloc (.cells #[.slice p.A p.n p.c, .slice none 0 0, .slice q.A q.n q.c] t) = w' := by
  subst hg
  have e : allS [p, ⟨none, 0, 0, 0, []⟩, q] = p.xs ++ q.xs := by simp [allS]
  have h0 : PtAt w ⟨none, 0, 0, 0, []⟩ := ⟨.inl rfl, rfl, by intro x hx; cases hx⟩
  have := sumAll_any w.heap.size [p, ⟨none, 0, 0, 0, []⟩, q] 3 3 _ (parts_new (by simpa using ⟨h, h0, h'⟩) t (vs := #[.slice p.A p.n p.c, .slice none 0 0, .slice q.A q.n q.c]) rfl rfl) rfl (by rw [e, List.length_append]; have := pt_low h hn; have := pt_low h' hn'; omega) (by decide)
  rwa [e] at this

def RsI (xs : List Int) (n : Nat) (w : World) (gh : Nat) (vs vi : Value) (wr : World) : Prop :=
  ∃ k : Nat, vi = .int .i64 (k : Int) ∧ n + 1 - k = gh ∧ k % 2 = 0 ∧ k ≤ n + 1 ∧ vs = .int .i64 (rdS (smS 0 (xs.take k))) ∧ w = wr
theorem sm_pair {xs : List Int} {k : Nat} (h : k + 1 < xs.length) (hk : k % 2 = 0) : smS 0 (xs.take (k + 2)) = smS 0 (xs.take k) + ((xs[k]?.getD 0) * 256 + xs[k + 1]?.getD 0) := by
  rw [sm_snoc 0 h, sm_snoc 0 (by omega), Nat.zero_add, Nat.zero_add, wt_even hk, wt_odd (by omega)]; omega
theorem sm_last {xs : List Int} {k : Nat} (h : k + 1 = xs.length) (hk : k % 2 = 0) : smS 0 (xs.take (k + 2)) = smS 0 (xs.take k) + (xs[k]?.getD 0) * 256 := by
  rw [List.take_of_length_le (i := k + 2) (by omega), ← List.take_of_length_le (i := k + 1) (l := xs) (by omega), sm_snoc 0 (by omega), Nat.zero_add, wt_even hk]
  rw [List.take_of_length_le (i := k + 1) (by omega)]; omega
set_option maxHeartbeats 1000000 in
theorem refSum10_any (A : Option Addr) (n c g : Nat) (xs : List Int) (w : World) (h : LsK .u8 w g A xs) (hn : xs.length = n) (hb : bytS xs) (hm : n ≤ 100000) :
    Calls Try.prog 25 #[.slice A n c] w fun e w' => e = .returned (.int .u16 (ckS xs)) ∧ w = w' := by
  have HV := Lib.hid h
  have HN := Lib.hid hn
  have HB := Lib.hid hb
  clear h hn hb
  go_enter Try.func25, Try.ntmps25
  go_wp2_with fail
  go_loopg [3, 4] (n + 1) (fun gh vs vi wr => RsI xs n w gh vs vi wr)
  case atStart => exact ⟨0, rfl, rfl, rfl, by omega, rfl, rfl⟩
  case round =>
    obtain ⟨k, rfl, rfl, hev, hk, rfl, rfl⟩ := hrel
    have hr := rdS_bd (sm_bd 0 _ (byt_take HB.out k)).1
    by_cases hlt : k < n
    · have k0 : (0 : Int) ≤ (k : Int) := by omega
      have k1 : (k : Int) < (n : Int) := by omega
      have hk2 : k < xs.length := by rw [HN.out]; exact hlt
      obtain ⟨x0, x1⟩ := byt_at HB.out hk2
      have hp := (sm_bd 0 _ (byt_take HB.out k)).1
      have V := HV.out
      rcases V with h0 | ⟨off, rfl, hc⟩
      · simp [h0] at hk2
      have c0 := hc k hk2
      by_cases h2 : k + 1 < n
      · have k2 : (k : Int) + 1 < (n : Int) := by omega
        have hk3 : k + 1 < xs.length := by rw [HN.out]; exact h2
        obtain ⟨y0, y1⟩ := byt_at HB.out hk3
        have c1 := hc (k + 1) hk3
        have ES := Lib.hid (sm_pair hk3 hev)
        generalize xs[k]?.getD 0 = x at c0 x0 x1 ES
        generalize xs[k + 1]?.getD 0 = y at c1 y0 y1 ES
        generalize smS 0 (xs.take k) = t at *
        have EA := Lib.hid (rd_add (a := t) (v := x * 256 + y) hp (by omega) (by omega))
        generalize rdS t = r at *
        obtain ⟨r0, r1⟩ := hr
        clear hc hk2 hk3 hp
        by_cases hov : 65535 < r + (x * 256 + y)
        · have EB : Hid (rdS (t + (x * 256 + y)) = r + (x * 256 + y) - 65536 + 1) := Lib.hid (by rw [EA.out, if_pos hov])
          clear EA
          go_wp2_with fail
          go_roundg (n + 1 - (k + 2))
          case measure => omega
          case rel => exact ⟨k + 2, by go_num, rfl, by omega, by omega, by rw [ES.out, EB.out], rfl⟩
        · have EB : Hid (rdS (t + (x * 256 + y)) = r + (x * 256 + y)) := Lib.hid (by rw [EA.out, if_neg hov])
          clear EA
          go_wp2_with fail
          go_roundg (n + 1 - (k + 2))
          case measure => omega
          case rel => exact ⟨k + 2, by go_num, rfl, by omega, by omega, by rw [ES.out, EB.out], rfl⟩
      · have k2 : ¬ (k : Int) + 1 < (n : Int) := by omega
        have hk3 : k + 1 = xs.length := by rw [HN.out]; omega
        have ES := Lib.hid (sm_last hk3 hev)
        generalize xs[k]?.getD 0 = x at c0 x0 x1 ES
        generalize smS 0 (xs.take k) = t at *
        have EA := Lib.hid (rd_add (a := t) (v := x * 256) hp (by omega) (by omega))
        generalize rdS t = r at *
        obtain ⟨r0, r1⟩ := hr
        clear hc hk2 hk3 hp
        by_cases hov : 65535 < r + x * 256
        · have EB : Hid (rdS (t + x * 256) = r + x * 256 - 65536 + 1) := Lib.hid (by rw [EA.out, if_pos hov])
          clear EA
          go_wp2_with fail
          go_roundg (n + 1 - (k + 2))
          case measure => omega
          case rel => exact ⟨k + 2, by go_num, rfl, by omega, by omega, by rw [ES.out, EB.out], rfl⟩
        · have EB : Hid (rdS (t + x * 256) = r + x * 256) := Lib.hid (by rw [EA.out, if_neg hov])
          clear EA
          go_wp2_with fail
          go_roundg (n + 1 - (k + 2))
          case measure => omega
          case rel => exact ⟨k + 2, by go_num, rfl, by omega, by omega, by rw [ES.out, EB.out], rfl⟩
    · have e1 : xs.take k = xs := List.take_of_length_le (by have := HN.out; omega)
      rw [e1] at hr ⊢
      have k1 : (n : Int) ≤ (k : Int) := by omega
      have ES : Hid (ckS xs = 65535 - rdS (smS 0 xs)) := Lib.hid rfl
      generalize rdS (smS 0 xs) = r at *
      obtain ⟨r0, r1⟩ := hr
      have e2 : IntKind.u16.wrap (65535 - r) = 65535 - r := by rw [IntKind.wrap_u16]; omega
      clear e1
      go_wp2_with fail
      go_ret
      exact ⟨ret_int (by rw [ES.out]), rfl⟩

/-- The example's bytes, in memory. -/
def exV : List Value := [.int .u8 0, .int .u8 1, .int .u8 242, .int .u8 3, .int .u8 244, .int .u8 245, .int .u8 246, .int .u8 247]
theorem ex_byt : bytS [0, 1, 242, 3, 244, 245, 246, 247] := by unfold bytS; decide
theorem ex_sum : ckS [0, 1, 242, 3, 244, 245, 246, 247] = 8717 := by decide +kernel
theorem ex_at (w : World) (t : TypeId) : PtAt (w.alloc (.cells #[.int .u8 0, .int .u8 1, .int .u8 242, .int .u8 3, .int .u8 244, .int .u8 245, .int .u8 246, .int .u8 247] t)) ⟨some ⟨w.heap.size, 0, none⟩, 8, 8, w.heap.size, [0, 1, 242, 3, 244, 245, 246, 247]⟩ :=
  ⟨at_ls (vs := exV) rfl (At.new w exV t), rfl, ex_byt⟩
theorem ex_any (w : World) (t t' : TypeId) (g : Nat) (hg : w.heap.size + 1 = g) : Calls Try.prog 21 #[.slice (some ⟨g, 0, none⟩) 1 1] ((w.alloc (.cells #[.int .u8 0, .int .u8 1, .int .u8 242, .int .u8 3, .int .u8 244, .int .u8 245, .int .u8 246, .int .u8 247] t)).alloc (.cells #[.slice (some ⟨w.heap.size, 0, none⟩) 8 8] t')) fun e w' => e = .returned (.int .u16 8717) ∧ Below w.heap.size w w' := by
  subst hg
  rw [← alloc_size w (.cells #[.int .u8 0, .int .u8 1, .int .u8 242, .int .u8 3, .int .u8 244, .int .u8 245, .int .u8 246, .int .u8 247] t)]
  refine (sumOne_any _ _ t' _ rfl (ex_at w t) (show 8 ≤ 100000 by decide)).mono ?_
  rintro e w' ⟨rfl, rfl⟩
  exact ⟨ret_int ex_sum, new_alloc (new_alloc (new_refl w) _) _⟩
end Go.Proofs.Ytnkcnfkonifmhaa
namespace Go.Proofs.Ytnkcnfkonifmhaa
open Go.RowKit
set_option linter.unusedVariables false

theorem own_pt {w : World} {base g n c : Nat} {zs : List Int} (h : OwnB w base (.slice (some ⟨g, 0, none⟩) n c) zs) (hb : bytS zs) : PtAt w ⟨some ⟨g, 0, none⟩, n, c, g, zs⟩ := ⟨own_ls h, h.blk.1.symm, hb⟩

/-- Two bytes were put. -/
def PutTo (w : World) (base g n c : Nat) (zs : List Int) (e : Ending) (w' : World) : Prop := e = .returned (.tuple #[]) ∧ OwnB w' base (.slice (some ⟨g, 0, none⟩) n c) zs ∧ Below base w w'

/-- May it be filled there? -/
def mayS (n : Nat) (a : Int) : Prop := 0 ≤ a ∧ a % 2 = 0 ∧ a + 2 ≤ (n : Int)
/-- What was filled. -/
def FillTo (w : World) (zs : List Int) (n : Nat) (e : Ending) (w' : World) : Prop := ∃ g c, e = .returned (.tuple #[.slice (some ⟨g, 0, none⟩) n c, .bool true]) ∧ OwnB w' w.heap.size (.slice (some ⟨g, 0, none⟩) n c) zs ∧ Below w.heap.size w w'
end Go.Proofs.Ytnkcnfkonifmhaa
namespace Go.Proofs.Ytnkcnfkonifmhaa
open Go.RowKit
set_option linter.unusedVariables false
end Go.Proofs.Ytnkcnfkonifmhaa
namespace Go.Proofs.Ytnkcnfkonifmhaa
open Go.RowKit
set_option linter.unusedVariables false

theorem two_below {w : World} {base g n c : Nat} {zs : List Int} (O : OwnB w base (.slice (some ⟨g, 0, none⟩) n c) zs) (p : Nat) (u v : Value) : Below base w ((w.setCell ⟨g, p, none⟩ u).setCell ⟨g, p + 1, none⟩ v) :=
  Below.setCell (p := ⟨g, p + 1, none⟩) (Below.setCell (p := ⟨g, p, none⟩) (Below.refl _ _) (ownLow O).1 _) (ownLow O).1 _
/-- The bytes, two of them 0, in a list of its own. -/
def HoleTo (w : World) (zs : List Int) (n : Nat) (v : Value) (w' : World) : Prop := ∃ g c, v = .slice (some ⟨g, 0, none⟩) n c ∧ OwnB w' w.heap.size (.slice (some ⟨g, 0, none⟩) n c) zs ∧ Below w.heap.size w w'
theorem hole_to {w w' : World} {ys : List Int} {v : Value} {n p k : Nat} (hk : p + 2 = k) (O : OwnB w' w.heap.size v ([] ++ ys.take p ++ [0, 0] ++ ys.drop k)) (B : Below w.heap.size w w') (hl : ys.length = n) (hp : p + 2 ≤ n) : HoleTo w (fillS ys p 0 0) n v w' := by
  subst hk
  have e : [] ++ ys.take p ++ [0, 0] ++ ys.drop (p + 2) = fillS ys p 0 0 := by simp [fillS]
  rw [e] at O
  obtain ⟨g, c, rfl, _, _⟩ := O.some ((fill_len 0 0 (by omega)).trans hl) (by omega)
  exact ⟨g, c, rfl, O, B⟩
end Go.Proofs.Ytnkcnfkonifmhaa
namespace Go.Proofs.Ytnkcnfkonifmhaa
open Go.RowKit
set_option linter.unusedVariables false

theorem four_src {w : World} {g : Nat} {a b c d : Int} (h : At w g [.int .u8 a, .int .u8 b, .int .u8 c, .int .u8 d]) : Src .u8 w (some ⟨g, 0, none⟩) 4 4 [a, b, c, d] :=
  ⟨rfl, .inr ⟨_, rfl, fun j hj => by
    have : j < 4 := hj
    match j, this with
    | 0, _ => exact h.cell 0 rfl
    | 1, _ => exact h.cell 1 rfl
    | 2, _ => exact h.cell 2 rfl
    | 3, _ => exact h.cell 3 rfl⟩⟩
/-- The twelve bytes. -/
def pseS (a b c d e f g h p n : Int) : List Int := [a, b, c, d, e, f, g, h, 0, p, n / 256 % 256, n % 256]
theorem twelve_own {w : World} {base : Nat} (hb : base ≤ w.heap.size) {zs : List Int} (hz : zs.length = 12) {vs : Array Value} (hv : (zs.map (Value.int .u8)).toArray = vs) {e : TypeId} {k : Nat} (hk : w.heap.size = k) : OwnK .u8 e (w.alloc (.cells vs e)) base (.slice (some ⟨k, 0, none⟩) 12 12) zs := by
  subst hv hk
  have h1 := World.ownsRow_lit (base := base) (size := 1) (e := e) w (zs.map (Value.int .u8)).toArray 12 hb (by unfold maxLen; omega) (by simp [hz])
  unfold OwnK
  rw [hz]
  simpa using h1
set_option maxHeartbeats 1000000 in
set_option maxRecDepth 100000 in
theorem refPseudo_any (a b c d e f g h p n : Int) (w : World) (hn : -9223372036854775808 ≤ n ∧ n ≤ 9223372036854775807) :
    Calls Try.prog 26 #[.agg #[.int .u8 a, .int .u8 b, .int .u8 c, .int .u8 d], .agg #[.int .u8 e, .int .u8 f, .int .u8 g, .int .u8 h], .int .u8 p, .int .i64 n] w (BytesOf w (pseS a b c d e f g h p n) 12) := by
  obtain ⟨n0, n1⟩ := hn
  obtain ⟨t, ht⟩ : ∃ t, n.tmod 65536 = t := ⟨_, rfl⟩
  have ht2 : (t < 0 ∧ t + 65536 = n % 65536) ∨ (0 ≤ t ∧ t = n % 65536) := by
    rw [Int.tmod_eq_emod] at ht
    split at ht <;> omega
  have A0 := At.new w [.int .u8 a, .int .u8 b, .int .u8 c, .int .u8 d] 22
  have A1 := At.newAt (alloc_size w (.cells #[.int .u8 a, .int .u8 b, .int .u8 c, .int .u8 d] 22)) [.int .u8 e, .int .u8 f, .int .u8 g, .int .u8 h] 22
  replace A0 := A0.alloc (.cells #[.int .u8 e, .int .u8 f, .int .u8 g, .int .u8 h] 22)
  have hs : ((w.alloc (.cells #[.int .u8 a, .int .u8 b, .int .u8 c, .int .u8 d] 22)).alloc (.cells #[.int .u8 e, .int .u8 f, .int .u8 g, .int .u8 h] 22)).heap.size = w.heap.size + 1 + 1 := by rw [alloc_size, alloc_size]
  have HB := Lib.hid (new_alloc (new_alloc (new_refl w) (.cells #[.int .u8 a, .int .u8 b, .int .u8 c, .int .u8 d] 22)) (.cells #[.int .u8 e, .int .u8 f, .int .u8 g, .int .u8 h] 22))
  have HO := Lib.hid (twelve_own (e := 5) HB.out.size (zs := pseS a b c d e f g h p n) rfl (vs := #[.int .u8 a, .int .u8 b, .int .u8 c, .int .u8 d, .int .u8 e, .int .u8 f, .int .u8 g, .int .u8 h, .int .u8 0, .int .u8 p, .int .u8 (n / 256 % 256), .int .u8 (n % 256)]) rfl hs)
  clear hs
  rcases ht2 with ⟨t0, t1⟩ | ⟨t0, t1⟩
  · have e1 : IntKind.u8.wrap ((t + 65536) / 256) = n / 256 % 256 := by rw [IntKind.wrap_u8]; omega
    have e2 : IntKind.u8.wrap ((t + 65536) % 256) = n % 256 := by rw [IntKind.wrap_u8]; omega
    have t2 : 0 ≤ t + 65536 := by omega
    have T1 := Lib.hid t1
    clear t1
    go_enter Try.func26, Try.ntmps26
    go_wp2_with fail
    go_ret
    exact ⟨_, 12, rfl, HO.out, new_alloc HB.out _⟩
  · have e1 : IntKind.u8.wrap (t / 256) = n / 256 % 256 := by rw [IntKind.wrap_u8]; omega
    have e2 : IntKind.u8.wrap (t % 256) = n % 256 := by rw [IntKind.wrap_u8]; omega
    have t2 : t ≤ 65535 := by omega
    have T1 := Lib.hid t1
    clear t1
    go_enter Try.func26, Try.ntmps26
    go_wp2_with fail
    go_ret
    exact ⟨_, 12, rfl, HO.out, new_alloc HB.out _⟩

theorem pse_app (a b c d e f g h p n : Int) : [] ++ [a, b, c, d] ++ [e, f, g, h] ++ [0, p, n / 256 % 256, n % 256] = pseS a b c d e f g h p n := rfl
set_option maxHeartbeats 1000000 in
set_option maxRecDepth 100000 in
theorem pseudo_any (a b c d e f g h p n : Int) (w : World) (hn : -9223372036854775808 ≤ n ∧ n ≤ 9223372036854775807) :
    Calls Try.prog 41 #[.agg #[.int .u8 a, .int .u8 b, .int .u8 c, .int .u8 d], .agg #[.int .u8 e, .int .u8 f, .int .u8 g, .int .u8 h], .int .u8 p, .int .i64 n] w (BytesOf w (pseS a b c d e f g h p n) 12) := by
  obtain ⟨n0, n1⟩ := hn
  have A0 := At.new w [.int .u8 a, .int .u8 b, .int .u8 c, .int .u8 d] 22
  have A1 := At.newAt (alloc_size w (.cells #[.int .u8 a, .int .u8 b, .int .u8 c, .int .u8 d] 22)) [.int .u8 e, .int .u8 f, .int .u8 g, .int .u8 h] 22
  replace A0 := A0.alloc (.cells #[.int .u8 e, .int .u8 f, .int .u8 g, .int .u8 h] 22)
  have HB := Lib.hid (new_alloc (new_alloc (new_refl w) (.cells #[.int .u8 a, .int .u8 b, .int .u8 c, .int .u8 d] 22)) (.cells #[.int .u8 e, .int .u8 f, .int .u8 g, .int .u8 h] 22))
  have mk : ∀ w, (Instr.makeSlice 32 (.int .i64 0) (.int .i64 12)).run Try.prog w = .ok (.slice (some ⟨w.heap.size, 0, none⟩) 0 12) (w.alloc (.cells (madeCells #[.int .u8 0] 12) 5)) := fun w => make_room elB 12 (by decide) w
  have e1 : IntKind.u8.wrap (n / 256) = n / 256 % 256 := IntKind.wrap_u8 _
  have e2 : IntKind.u8.wrap n = n % 256 := IntKind.wrap_u8 _
  have S0 := Lib.hid (four_src A0)
  have S1 := Lib.hid (four_src A1)
  have q1 : ([] : List Int).length + [a, b, c, d].length ≤ 1000000000 := by simp
  have q2 : ([] ++ [a, b, c, d] : List Int).length + [e, f, g, h].length ≤ 1000000000 := by simp
  have q3 : ([] ++ [a, b, c, d] ++ [e, f, g, h] : List Int).length + [0, p, n / 256 % 256, n % 256].length ≤ 1000000000 := by simp
  have Q1 := Lib.hid q1
  have Q2 := Lib.hid q2
  have Q3 := Lib.hid q3
  clear q1 q2 q3
  go_enter Try.func41, Try.ntmps41
  go_upto_region 1 with (fail)
  generalize hW : (w.alloc (.cells #[.int .u8 a, .int .u8 b, .int .u8 c, .int .u8 d] 22)).alloc (.cells #[.int .u8 e, .int .u8 f, .int .u8 g, .int .u8 h] 22) = W at A0 A1 HB S0 S1 ⊢
  clear hW A0 A1
  have O0 := Lib.hid (OwnK.room (k := .u8) (e := 5) (w := W) (n := 12) (Nat.le_refl _) (by decide))
  have B0 := Lib.hid (new_alloc (new_refl W) (.cells (madeCells #[.int .u8 0] 12) 5))
  go_wp2_with (first
    | (at_builtin; have h := O2; clear h; refine wp_catK elB (by rfl) _ _ (by rfl) W.heap.size _ ([] ++ [a, b, c, d] ++ [e, f, g, h]) _ 4 4 [0, p, n / 256 % 256, n % 256] (by rfl) (by rfl) (four_src (At.new w2 _ _)) (O2.alloc _) Q3.out (alloc_le B2.size _) ?_; intro v3 w3 O3 G3 hat3)
    | (at_builtin; have h := O1; clear h; refine wp_catK elB (by rfl) _ _ (by rfl) W.heap.size _ ([] ++ [a, b, c, d]) _ 4 4 [e, f, g, h] (by rfl) (by rfl) (S1.out.kept B1) O1 Q2.out B1.size ?_; intro v2 w2 O2 G2 hat2; have B2 := B1.trans (below_push O1 G2 B1.size))
    | (at_builtin; refine wp_catK elB (by rfl) _ _ (by rfl) W.heap.size _ [] _ 4 4 [a, b, c, d] (by rfl) (by rfl) (S0.out.kept B0.out) O0.out Q1.out B0.out.size ?_; intro v1 w1 O1 G1 hat1; have B1 := B0.out.trans (below_push O0.out G1 B0.out.size)))
  go_ret
  have B3 := (B2.alloc B2.size _).trans (below_push (O2.alloc _) G3 (alloc_le B2.size _))
  rw [pse_app] at O3
  obtain ⟨g3, c3, rfl, _, _⟩ := O3.some (n := 12) rfl (by decide)
  exact ⟨g3, c3, rfl, O3.mono HB.out.size, new_then HB.out B3⟩
end Go.Proofs.Ytnkcnfkonifmhaa
namespace Go.Proofs.Ytnkcnfkonifmhaa
open Go.RowKit
set_option linter.unusedVariables false

/-- A list that is this text, and whether there is one. -/
def FlTo (w : World) (T : ByteArray) (q : Bool) (e : Ending) (w' : World) : Prop :=
  ∃ x, e = .returned (.tuple #[x, .bool q]) ∧ (∀ w2, Below w'.heap.size w' w2 → (convert 32 9 x).run Try.prog w2 = .ok (.string T) w2) ∧ Below w.heap.size w w'
theorem FillTo.fl {w w' : World} {zs : List Int} {n : Nat} {e : Ending} (h : FillTo w zs n e w') : FlTo w (strOfNums zs) true e w' := by
  obtain ⟨g, c, rfl, O, B⟩ := h
  exact ⟨_, rfl, fun w2 B2 => text_own (O.kept B2), B⟩

/-- In block g lie L parts, whose checksum is s. -/
structure SumIs (L g : Nat) (w : World) (s : Int) : Prop where
  is : ∃ ps, Parts w g ps ∧ ps.length = L ∧ (allS ps).length ≤ 1000000 ∧ L ≤ 1000 ∧ ckS (allS ps) = s
theorem Parts.kept {w w' : World} {g : Nat} {ps : List Pt} (h : Parts w g ps) (B : Below w.heap.size w w') : Parts w' g ps := ⟨h.1.kept B, fun p hp => (h.2 p hp).kept B⟩
theorem SumIs.alloc {L g : Nat} {w : World} {s : Int} (h : SumIs L g w s) (o : Obj) : SumIs L g (w.alloc o) s := by
  obtain ⟨ps, h1, h2⟩ := h.is
  exact ⟨ps, h1.kept (new_alloc (new_refl w) o), h2⟩
theorem sumIs_any (L g c : Nat) (s : Int) (w : World) (h : SumIs L g w s) : Calls Try.prog 21 #[.slice (some ⟨g, 0, none⟩) L c] w fun e w' => e = .returned (.int .u16 s) ∧ w = w' := by
  obtain ⟨ps, h1, h2, h3, h4, rfl⟩ := h.is
  exact sumAll_any g ps L c w h1 h2 h3 h4
theorem PtAt.len {w : World} {p : Pt} (h : PtAt w p) {n : Nat} (hn : p.n ≤ n) : p.xs.length ≤ n := by rw [h.2.1]; exact hn
theorem sum_new {w : World} (ps : List Pt) {L g : Nat} (hg : w.heap.size = g) {s : Int} {t : TypeId} {vs : Array Value} (h : ∀ p ∈ ps, PtAt w p) (hv : (ps.map Pt.val).toArray = vs) (hL : ps.length = L) (hn : (allS ps).length ≤ 1000000) (hL1 : L ≤ 1000) (hs : ckS (allS ps) = s) : SumIs L g (w.alloc (.cells vs t)) s :=
  ⟨ps, parts_new h t hv hg, hL, hn, hL1, hs⟩

theorem sum_swap {ds : List Int} {e : Nat} (he : e % 2 = 0) (hd : ds.length % 2 = 0) (hle : e ≤ ds.length) : ckS (ds.drop e ++ ds.take e) = ckS ds := by
  have e1 : smS 0 ds = smS 0 (ds.take e) + smS 0 (ds.drop e) := by
    have := sm_app 0 (ds.take e) (ds.drop e)
    rw [List.take_append_drop] at this
    rw [this, Nat.zero_add, List.length_take, Nat.min_eq_left hle, sm_ev he]
  have e2 : smS 0 (ds.drop e ++ ds.take e) = smS 0 (ds.drop e) + smS 0 (ds.take e) := by
    rw [sm_app, Nat.zero_add, List.length_drop, sm_ev (n := ds.length - e) (by omega)]
  rw [ckS, ckS, e1, e2, Int.add_comm]
theorem fil_zero {zs : List Int} {p : Nat} (h : p + 2 ≤ zs.length) (hp : p % 2 = 0) (hb : bytS zs) : ckS (filS zs p) = 0 := by rw [ckS, fil_full h hp hb]; rfl
theorem parts_one {w : World} {gl L cap : Nat} {A : Option Addr} {ds : List Int} (h : LsK .u8 w gl A ds) (hl : ds.length = L) (hb : bytS ds) (hn : L ≤ 300) (w' : World) (g : Nat) (t : TypeId) (B : Below w.heap.size w w') (hg : w'.heap.size = g) :
    SumIs 1 g (w'.alloc (.cells #[.slice A L cap] t)) (ckS ds) :=
  sum_new [⟨A, L, cap, gl, ds⟩] hg (by simpa using ⟨h.kept B, hl, hb⟩) rfl rfl (by simp [allS]; omega) (by decide) (by simp [allS])
theorem parts_three {w : World} {gl L cap k : Nat} {A A1 : Option Addr} {ds : List Int} (h : LsK .u8 w gl A ds) (hl : ds.length = L) (hb : bytS ds) (hn : L ≤ 300) (hk : k ≤ L) (hc : L ≤ cap) (hA : (if cap = k then A else Option.map (fun x => x.add k) A) = A1) (w' : World) (g : Nat) (t : TypeId) (B : Below w.heap.size w w') (hg : w'.heap.size = g) :
    SumIs 3 g (w'.alloc (.cells #[.slice A k cap, .slice none 0 0, .slice A1 (L - k) (cap - k)] t)) (ckS ds) := by
  have p1 : PtAt w' ⟨A, k, cap, gl, ds.take k⟩ := ⟨(ls_take h k).kept B, by show (ds.take k).length = k; rw [List.length_take]; omega, byt_take hb k⟩
  have p2 : PtAt w' ⟨none, 0, 0, 0, []⟩ := ⟨.inl rfl, rfl, by intro x hx; cases hx⟩
  have p3 : PtAt w' ⟨A1, L - k, cap - k, gl, ds.drop k⟩ := ⟨(ls_rest h hl hk hc hA).kept B, by show (ds.drop k).length = L - k; rw [List.length_drop]; omega, byt_drop hb k⟩
  have e : allS [⟨A, k, cap, gl, ds.take k⟩, ⟨none, 0, 0, 0, []⟩, ⟨A1, L - k, cap - k, gl, ds.drop k⟩] = ds := by simp [allS]
  exact sum_new [⟨A, k, cap, gl, ds.take k⟩, ⟨none, 0, 0, 0, []⟩, ⟨A1, L - k, cap - k, gl, ds.drop k⟩] hg (by simpa using ⟨p1, p2, p3⟩) rfl rfl (by rw [e]; omega) (by decide) (by rw [e])
theorem parts_two {w : World} {gl L cap k : Nat} {A A1 : Option Addr} {ds : List Int} (h : LsK .u8 w gl A ds) (hl : ds.length = L) (hb : bytS ds) (hn : L ≤ 300) (hk : k ≤ L) (hc : L ≤ cap) (he : k % 2 = 0) (hL : L % 2 = 0) (hA : (if cap = k then A else Option.map (fun x => x.add k) A) = A1) (w' : World) (g : Nat) (t : TypeId) (B : Below w.heap.size w w') (hg : w'.heap.size = g) :
    SumIs 2 g (w'.alloc (.cells #[.slice A1 (L - k) (cap - k), .slice A k cap] t)) (ckS ds) := by
  have p1 : PtAt w' ⟨A, k, cap, gl, ds.take k⟩ := ⟨(ls_take h k).kept B, by show (ds.take k).length = k; rw [List.length_take]; omega, byt_take hb k⟩
  have p3 : PtAt w' ⟨A1, L - k, cap - k, gl, ds.drop k⟩ := ⟨(ls_rest h hl hk hc hA).kept B, by show (ds.drop k).length = L - k; rw [List.length_drop]; omega, byt_drop hb k⟩
  have e : allS [⟨A1, L - k, cap - k, gl, ds.drop k⟩, ⟨A, k, cap, gl, ds.take k⟩] = ds.drop k ++ ds.take k := by simp [allS]
  exact sum_new [⟨A1, L - k, cap - k, gl, ds.drop k⟩, ⟨A, k, cap, gl, ds.take k⟩] hg (by simpa using ⟨p3, p1⟩) rfl rfl (by rw [e, List.length_append, List.length_take, List.length_drop]; omega) (by decide) (by rw [e]; exact sum_swap he (by omega) (by omega))
end Go.Proofs.Ytnkcnfkonifmhaa
