/- For every list of int64 and every text, the first forty numbers (each signed, and without its sign) and the text's first two hundred bytes, put one behind the other, are taken as they were, and nothing is left: CodeBack returns true and changes nothing. No conditions. -/
import Derived.Test.YthokfnbmjkekfaaKit
import Derived.Test.YthokfnbmjkekfaaCodL
import Derived.Deep.DeepCutAuto
import Derived.Deep.QuietTactic
import Derived.BigQuiet
namespace Go.Proofs.Ythokfnbmjkekfaa
namespace codeBack
open Go.ChangeShapes Go.WideShapes Go.ChangeAt Go.RowKit
open Go.ChangeMaps (open_string shut_string)
set_option linter.unusedVariables false

/-- What is put of a number. -/
def enc7 (s : ByteArray) (x : Int) : List Int := nb (zz x).toNat ++ (nb (IntKind.u64.wrap x).toNat ++ (nb s.size ++ sb s))
def encs (s : ByteArray) (xs : List Int) : List Int := xs.flatMap (enc7 s)
theorem encs_take (s : ByteArray) {xs : List Int} {k : Nat} (h : k < xs.length) : encs s (xs.take (k + 1)) = encs s (xs.take k) ++ enc7 s (xs[k]?.getD 0) := by
  rw [take_snoc7 h]; simp [encs]
theorem encs_drop (s : ByteArray) {xs : List Int} {k : Nat} (h : k < xs.length) : encs s (xs.drop k) = enc7 s (xs[k]?.getD 0) ++ encs s (xs.drop (k + 1)) := by
  rw [List.drop_eq_getElem_cons h, List.getElem?_eq_getElem h]; rfl
theorem u6_bd (x : Int) : 0 ≤ IntKind.u64.wrap x ∧ IntKind.u64.wrap x ≤ 18446744073709551615 := by rw [IntKind.wrap_u64]; omega
theorem enc7_few {s : ByteArray} {x : Int} (hx : -9223372036854775808 ≤ x ∧ x ≤ 9223372036854775807) (hs : s.size ≤ 200) : (enc7 s x).length ≤ 230 := by
  have h1 := (nb_ten (x := (zz x).toNat) (by have := zz_bd hx; omega)).1
  have h2 := (nb_ten (x := (IntKind.u64.wrap x).toNat) (by have := u6_bd x; omega)).1
  have h3 := (nb_ten (x := s.size) (by omega)).1
  have h4 := sb_len s
  unfold enc7
  simp only [List.length_append]
  omega
theorem encs_few {s : ByteArray} (hs : s.size ≤ 200) : ∀ xs : List Int, (∀ x ∈ xs, -9223372036854775808 ≤ x ∧ x ≤ 9223372036854775807) → (encs s xs).length ≤ 230 * xs.length
  | [], _ => by simp [encs]
  | x :: xs, h => by
    have h1 := encs_few hs xs (fun y hy => h y (List.mem_cons_of_mem _ hy))
    have h2 := enc7_few (s := s) (h x (by simp)) hs
    have e : encs s (x :: xs) = enc7 s x ++ encs s xs := rfl
    rw [e, List.length_append, List.length_cons]
    omega
theorem encs_byte {s : ByteArray} (xs : List Int) : ∀ c ∈ encs s xs, 0 ≤ c ∧ c ≤ 255 := by
  intro c hc
  simp only [encs, enc7, List.mem_flatMap, List.mem_append] at hc
  obtain ⟨x, _, h | h | h | h⟩ := hc
  · exact nb_byte _ c h
  · exact nb_byte _ c h
  · exact nb_byte _ c h
  · exact sb_byte _ c h
def PInv (w : World) (s : ByteArray) (zs : List Int) (n gh : Nat) (vo vi : Value) (wr : World) : Prop :=
  ∃ k g m c : Nat, k ≤ n ∧ n - k = gh ∧ vi = .int .i64 (k : Int) ∧ vo = .slice (some ⟨g, 0, none⟩) m c ∧ OwnB wr w.heap.size vo (encs s (zs.take k)) ∧ Below w.heap.size w wr
def TInv (w : World) (b g N : Nat) (s : ByteArray) (zs : List Int) (n gh : Nat) (vi : Value) (wr : World) : Prop :=
  ∃ k a : Nat, k ≤ n ∧ n - k = gh ∧ vi = .int .i64 (k : Int) ∧ a + (encs s (zs.drop k)).length = N ∧ RdIn w b g (encs s (zs.drop k)) a 0 wr
theorem own : ownKnob Try.prog.godebug = none := by kernel_rfl
theorem laidOut : laidOutB Try.prog = true := by kernel_rfl

set_option maxHeartbeats 4000000 in
set_option maxRecDepth 100000 in
theorem walk (a0 : Option Addr) (len0 cap0 : Nat) (z0 : List Int) (a1 : ByteArray) (w : World) (w0 : IsRow .i64 w a0 len0 cap0 z0) (w1 : a1.size ≤ maxLen) :
    Calls Try.prog 5 #[.slice a0 len0 cap0, .string a1] w fun e w' => e = .returned (.bool true) ∧ Below w.heap.size w w' := by
  unfold maxLen at w1
  obtain ⟨n, hn⟩ : ∃ n, n = min len0 40 := ⟨_, rfl⟩
  have hn1 : n ≤ len0 := by omega
  have hn2 : n ≤ 40 := by omega
  have hc1 := row_len w0
  have HW := Lib.hid w0
  have HN := Lib.hid hn
  clear w0 hn
  go_enter Try.func5, Try.ntmps5
  go_upto_region 1 with (fail)
  go_cut [0, 1] (fun v u wx => v = .slice a0 n cap0 ∧ (∃ s : ByteArray, u = .string s ∧ s.size ≤ 200) ∧ ∃ q, wx = w.drewN q)
  case first =>
    by_cases h40 : len0 ≤ 40
    · obtain rfl : len0 = n := by have := HN.out; omega
      have k1 : (len0 : Int) ≤ 40 := by omega
      have k2 : (0 : Int) ≤ (len0 : Int) := by omega
      have k3 : (len0 : Int) ≤ (cap0 : Int) := by omega
      by_cases h2 : a1.size ≤ 200
      · have s1 : (a1.size : Int) ≤ 200 := by omega
        have s2 : (0 : Int) ≤ (a1.size : Int) := by omega
        go_wp2_with fail
        go_quiet (fail)
        go_wp2_with fail
        go_meet
        case rel => exact ⟨rfl, ⟨_, rfl, h2⟩, _, rfl⟩
      · have s1 : (200 : Int) < (a1.size : Int) := by omega
        go_wp2_with fail
        go_quiet (fail)
        go_wp2_with fail
        go_meet
        case rel => exact ⟨rfl, ⟨_, rfl, by rw [ByteArray.size_extract]; omega⟩, _, rfl⟩
    · obtain rfl : n = 40 := by have := HN.out; omega
      have k1 : (40 : Int) < (len0 : Int) := by omega
      have k3 : (40 : Int) ≤ (cap0 : Int) := by omega
      by_cases h2 : a1.size ≤ 200
      · have s1 : (a1.size : Int) ≤ 200 := by omega
        have s2 : (0 : Int) ≤ (a1.size : Int) := by omega
        go_wp2_with fail
        go_quiet (fail)
        go_wp2_with fail
        go_meet
        case rel => exact ⟨rfl, ⟨_, rfl, h2⟩, _, rfl⟩
      · have s1 : (200 : Int) < (a1.size : Int) := by omega
        go_wp2_with fail
        go_quiet (fail)
        go_wp2_with fail
        go_meet
        case rel => exact ⟨rfl, ⟨_, rfl, by rw [ByteArray.size_extract]; omega⟩, _, rfl⟩
  case rest =>
    obtain ⟨rfl, ⟨s, rfl, hs⟩, q, rfl⟩ := hcut
    obtain ⟨zs, ez⟩ : ∃ zs, zs = z0.take n := ⟨_, rfl⟩
    have hzl : zs.length = n := by rw [ez, List.length_take]; omega
    have HE : Hid (∀ k, k < n → ∃ b off, a0 = some ⟨b, off, none⟩ ∧ w.cell? ⟨b, off + k, none⟩ = some (.int .i64 (zs[k]?.getD 0)) ∧ b < w.heap.size ∧ -9223372036854775808 ≤ zs[k]?.getD 0 ∧ zs[k]?.getD 0 ≤ 9223372036854775807) := Lib.hid fun k hk => by
      obtain ⟨b, off, h1, h2, h3, h4⟩ := row_at HW.out (i := k) (by omega)
      have e : zs[k]?.getD 0 = z0[k]?.getD 0 := by rw [ez, List.getElem?_take, if_pos hk]
      rw [e]
      exact ⟨b, off, h1, h2, h3, bounds_i64 h4⟩
    have HB : Hid (∀ x ∈ zs, -9223372036854775808 ≤ x ∧ x ≤ 9223372036854775807) := Lib.hid fun x hx => by
      obtain ⟨k, hk, rfl⟩ := List.getElem_of_mem hx
      obtain ⟨_, _, _, _, _, h1, h2⟩ := HE.out k (by omega)
      rw [List.getElem?_eq_getElem hk] at h1 h2
      exact ⟨h1, h2⟩
    have HL := Lib.hid hzl
    clear ez hzl HW HN w1
    have k0 : (0 : Int) ≤ (n : Int) := by omega
    have k1 : (n : Int) ≤ 40 := by omega
    have L0 : Below w.heap.size w (w.drewN q) := new_draw (new_refl w) q
    have hz0 : w.heap.size ≤ (w.drewN q).heap.size := Nat.le_refl _
    generalize w.drewN q = W at L0 hz0 ⊢
    go_wp2_with fail
    go_loopg [5, 24] n (fun gh vo vi wr => PInv w s zs n gh vo vi wr)
    case atStart => exact ⟨0, W.heap.size, 0, 0, by omega, rfl, rfl, rfl, by simpa [encs] using OwnK.made0 (k := .u8) hz0, L0.alloc hz0 _⟩
    case round =>
      clear L0 hz0
      obtain ⟨k, g, m, c, hk, rfl, rfl, rfl, hO, hB⟩ := hrel
      by_cases hlt : k < n
      · obtain ⟨bl, off, rfl, e0, hbl, x0, x1⟩ := HE.out k hlt
        have c0 := cell_low hB hbl e0
        have hk2 : k < zs.length := by rw [HL.out]; exact hlt
        have hfew := encs_few hs (zs.take k) (fun x hx => HB.out x (List.mem_of_mem_take hx))
        have hlk : (zs.take k).length ≤ 40 := by rw [List.length_take]; omega
        have ET := Lib.hid (encs_take s hk2)
        generalize zs[k]?.getD 0 = x at c0 e0 x0 x1 ET
        have hm : m ≤ 10000 := by have := hO.src.1; omega
        obtain ⟨P, hP⟩ : ∃ P, encs s (zs.take k) = P := ⟨_, rfl⟩
        have hPl : P.length = m := by rw [← hP]; exact hO.src.1.symm
        rw [hP] at hO ET
        have hS := hO.src
        have zb := zz_bd ⟨x0, x1⟩
        have ub := u6_bd x
        have l1 := (nb_ten (x := (zz x).toNat) (by omega)).1
        have l2 := (nb_ten (x := (IntKind.u64.wrap x).toNat) (by omega)).1
        have l3 := (nb_ten (x := s.size) (by omega)).1
        have p1 := nb_pos (zz x).toNat
        have ls := sb_len s
        obtain ⟨n1, hn1⟩ : ∃ n1, (P ++ nb (zz x).toNat).length = n1 := ⟨_, rfl⟩
        obtain ⟨n2, hn2⟩ : ∃ n2, (P ++ nb (zz x).toNat ++ nb (IntKind.u64.wrap x).toNat).length = n2 := ⟨_, rfl⟩
        obtain ⟨n3, hn3⟩ : ∃ n3, (P ++ nb (zz x).toNat ++ nb (IntKind.u64.wrap x).toNat ++ nb s.size ++ sb s).length = n3 := ⟨_, rfl⟩
        have q1 : 0 < n1 ∧ n1 ≤ 11000 := by rw [← hn1, List.length_append]; omega
        have q2 : 0 < n2 ∧ n2 ≤ 12000 := by rw [← hn2, List.length_append, hn1]; omega
        have q3 : 0 < n3 := by rw [← hn3, List.length_append, List.length_append, hn2]; omega
        have H1 := Lib.hid hn1
        have H2 := Lib.hid hn2
        have H3 := Lib.hid hn3
        have HO := Lib.hid hS
        have HX : Hid (-9223372036854775808 ≤ x ∧ x ≤ 9223372036854775807) := Lib.hid ⟨x0, x1⟩
        have HU := Lib.hid ub
        clear hn1 hn2 hn3 hS hO hP hPl hfew hlk e0 hk2 l1 l2 l3 p1 ls zb ub
        have i0 : (0 : Int) ≤ (k : Int) := by omega
        have i1 : (k : Int) < (n : Int) := by omega
        go_wp2_with (first
          | (go_at_call 9; refine (putInt_any _ m c P x n1 _ HO.out HX.out (by omega) H1.out q1.1).mono ?_; rintro e w2 ⟨g2, c2, rfl, O2, B2⟩)
          | (go_at_call 7; refine (put_one _ n1 c2 _ (IntKind.u64.wrap x) n2 w2 _ O2.src HU.out (by omega) H2.out q2.1).mono ?_; rintro e w3 ⟨g3, c3, rfl, O3, B3⟩)
          | (go_at_call 11; refine (putText_any _ n2 c3 _ s n3 _ O3.src (by omega) (by omega) H3.out q3).mono ?_; rintro e w4 ⟨g4, c4, rfl, O4, B4⟩))
        go_roundg (n - (k + 1))
        case measure => omega
        case rel =>
          have BB := new_then (new_then (new_alloc (new_then hB B2) _) B3) B4
          have s2 := B2.size
          have s3 := B3.size
          have s1 := hB.size
          refine ⟨k + 1, g4, n3, c4, by omega, rfl, by go_num, rfl, ?_, BB⟩
          rw [ET.out]
          have e : P ++ enc7 s x = P ++ nb (zz x).toNat ++ nb (IntKind.u64.wrap x).toNat ++ nb s.size ++ sb s := by simp [enc7]
          rw [e]
          exact O4.mono (by simp at s3; omega)
      · obtain rfl : k = n := by omega
        have e1 : zs.take k = zs := List.take_of_length_le (by have := HL.out; omega)
        rw [e1] at hO
        have hfew := encs_few hs zs HB.out
        have hS := hO.src
        have hm : m ≤ 10000 := by have := hS.1; have := HL.out; omega
        have HO := Lib.hid hS
        have HM := Lib.hid hS.1
        have HY : Hid (∀ c ∈ encs s zs, 0 ≤ c ∧ c ≤ 255) := Lib.hid (encs_byte zs)
        clear hS hO e1 hfew
        go_wp2_with (first
          | (go_at_call 14; refine (newR _ m c _ _ HO.out (by omega) HY.out).mono ?_; rintro e w2 ⟨b2, g2, rfl, R2⟩))
        have R3 : RdIn w b2 g2 (encs s zs) 0 0 w2 := ⟨R2.1, Nat.le_trans hB.size R2.2.1, R2.2.2.1.imp (fun e => e) (fun e => Nat.le_trans hB.size e), new_then hB R2.2.2.2⟩
        clear R2
        go_loopg [42] k (fun gh vi wr => TInv w b2 g2 m s zs k gh vi wr)
        case atStart => exact ⟨0, 0, by omega, rfl, rfl, by rw [List.drop_zero, Nat.zero_add]; exact HM.out.symm, R3⟩
        case round =>
          clear R3 hB
          obtain ⟨j, a, hj, rfl, rfl, ha, hR⟩ := hrel
          by_cases hlt : j < k
          · obtain ⟨bl, off, rfl, e0, hbl, x0, x1⟩ := HE.out j hlt
            have c0 := cell_low hR.2.2.2 hbl e0
            have hj2 : j < zs.length := by rw [HL.out]; exact hlt
            rw [encs_drop s hj2] at hR ha
            generalize zs[j]?.getD 0 = x at c0 e0 x0 x1 hR ha
            obtain ⟨r, er⟩ : ∃ r, encs s (zs.drop (j + 1)) = r := ⟨_, rfl⟩
            rw [er] at hR ha
            have eA : enc7 s x ++ r = nb (zz x).toNat ++ (nb (IntKind.u64.wrap x).toNat ++ (nb s.size ++ (sb s ++ r))) := by simp [enc7]
            rw [eA] at hR ha
            have ls := sb_len s
            have HA : Hid (a + (nb (zz x).toNat).length + (nb (IntKind.u64.wrap x).toNat).length + ((nb s.size).length + s.size) + r.length = m) := Lib.hid (by
              rw [← ha]; simp only [List.length_append]; omega)
            have HX : Hid (-9223372036854775808 ≤ x ∧ x ≤ 9223372036854775807) := Lib.hid ⟨x0, x1⟩
            have HU := Lib.hid (u6_bd x)
            have HER := Lib.hid er
            have i0 : (0 : Int) ≤ (j : Int) := by omega
            have i1 : (j : Int) < (k : Int) := by omega
            have s0 : (s.size : Int) ≤ (s.size : Int) := Int.le_refl _
            have s1 : (s.size : Int) ≤ 9223372036854775807 := by omega
            clear ha er eA ls e0 hj2
            go_wp2_with (first
              | (go_at_call 15; refine (intIn hR HX.out rfl).mono ?_; rintro e w3 ⟨rfl, R3, o3⟩)
              | (go_at_call 21; refine (takeIn R3 HU.out rfl).mono ?_; rintro e w4 ⟨rfl, R4, o4⟩)
              | (go_at_call 19; refine (textIn R4 s0 s1 rfl).mono ?_; rintro e w5 ⟨rfl, R5, o5⟩))
            go_roundg (k - (j + 1))
            case measure => omega
            case rel => exact ⟨j + 1, _, by omega, rfl, by go_num, by rw [HER.out]; exact HA.out, by rw [HER.out]; exact R5⟩
          · obtain rfl : j = k := by omega
            have e1 : zs.drop j = [] := List.drop_eq_nil_of_le (by have := HL.out; omega)
            rw [e1] at hR ha
            obtain rfl : a = m := by simpa [encs] using ha
            clear ha e1
            go_wp2_with (first
              | (go_at_call 22; refine (leftR b2 g2 _ a 0 0 _ hR.1 rfl).mono ?_; rintro e w3 ⟨rfl, rfl⟩)
              | (go_at_call 24; refine (atR b2 g2 _ a 0 _ hR.1).mono ?_; rintro e w3 ⟨rfl, rfl⟩)
              | (go_at_call 25; refine (errR b2 g2 _ a 0 _ hR.1).mono ?_; rintro e w3 ⟨rfl, rfl⟩)
              | (go_at_call 13; refine (works07_any _).mono ?_; rintro e w6 ⟨rfl, B6⟩))
            go_ret
            exact ⟨rfl, new_then hR.2.2.2 B6⟩

set_option maxRecDepth 100000 in
theorem lifted (os : Os) (started : os.Started) (H : Type) (enc : TypeId × Value → H) :
    ReturnsInHanded {} Try.checked os 5 .any (Rows.codeBackSpec.pre6 enc Try.prog Try.f5 Rows.codeBackRow.domain false) (Rows.codeBackSpec.post enc Try.prog Try.f5 false true false false) := by
  refine returnsInHanded_of_change (C := Try.checked) own started (by kernel_rfl) Try.func5
    (ChangeSpec.witness6 (enc := enc) (C := Try.checked) false ⟨#[], #[.slice none 0 0, .string ByteArray.empty], []⟩ 8 (by kernel_rfl) (by kernel_rfl) (by kernel_rfl) (by kernel_rfl)) ?_
  intro W base args ds gs before hval0 hW hcnd _
  have hval : ∀ (j : Nat) t v, Try.f5.params[j]? = some t → args[j]? = some v → Value.okWide Try.prog W .any base t v := hval0
  have hW' := hW
  obtain ⟨p, q, hA0, hV, rfl, hfz, hnd⟩ := hW
  have hA : DataW.TrodAll enc Try.prog W 0 (fun _ => true) true Try.f5.params.toList args.toList ds p := hA0
  rw [Try.params5] at hA hval
  obtain ⟨v0, vs0, d0, ds0, p0, q0, hargs, rfl, rfl, h0, r0⟩ := trodAll_cons hA
  obtain ⟨v1, vs1, d1, ds1, p1, q1, rfl, rfl, rfl, h1, r1⟩ := trodAll_cons r0
  obtain ⟨rfl, rfl, rfl⟩ := trodAll_nil r1
  obtain rfl : args = #[v0, v1] := by cases args; simp_all
  obtain ⟨rfl, rfl⟩ := trodVars_none hV
  have k0 := h0
  have lt0 : ∀ x ∈ p0, x.block < W.heap.size := by obtain ⟨m, hm⟩ := k0; exact DataW.trod_lt m _ _ _ hm
  obtain ⟨a0, len0, cap0, rfl⟩ := okWide_slice Try.underlying51 (hval 0 51 v0 rfl rfl)
  obtain ⟨z0, w0⟩ := isRow_of Try.underlying51 Try.underlying2 (by kernel_rfl) h0
  have k1 := h1
  have lt1 : ∀ x ∈ p1, x.block < W.heap.size := by obtain ⟨m, hm⟩ := k1; exact DataW.trod_lt m _ _ _ hm
  obtain ⟨a1, rfl, _, _, w1⟩ := open_string Try.underlying9 (hval 1 9 v1 rfl rfl) h1
  clear hA0 hval0
  refine (walk a0 len0 cap0 z0 a1 W w0 w1).mono fun e W' ⟨he, bel⟩ => ?_
  subst he
  exact ⟨_, rfl, _, _, _, [], _, [], hW', trodAll_mk1 (shut_bool Try.underlying4 _), (trodAll_cons_mk (Below.trod laidOut (by kernel_rfl) (of_decide_eq_true (by kernel_rfl)) k0 bel lt0) (trodAll_cons_mk (Below.trod laidOut (by kernel_rfl) (of_decide_eq_true (by kernel_rfl)) k1 bel lt1) trodAll_mk0)), rfl, bel.frame _, fun h => by cases h⟩

theorem over : Rows.codeBackRow.holds Try.pinned (OpenSpec.ofChange Rows.codeBackSpec) :=
  OpenClaim.holds_of_wide 5 Try.f5 rfl rfl rfl rfl rfl rfl rfl ⟨rfl, rfl, rfl, rfl, rfl⟩ rfl rfl rfl rfl rfl (by kernel_rfl) Try.func5 (by kernel_rfl)
    (of_decide_eq_true (by kernel_rfl)) (by unfold Func.isWrapper; first | (rw [if_pos (by decide +kernel)]; kernel_rfl) | (rw [if_neg (by decide +kernel)]; exact ⟨rfl, rfl⟩))
    (fun os started H enc _ => lifted os started H enc)
end codeBack
theorem codeBack_holds : Rows.CodeBackSaid := codeBack.over
end Go.Proofs.Ythokfnbmjkekfaa
