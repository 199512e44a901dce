/- Package heap: rise, sink, settle. -/
import Derived.Test.YtmdlbjeiokadaaaHeapB
namespace Go.Proofs.Ytmdlbjeiokadaaa
open Go.RowKit
set_option linter.unusedVariables false

/-- The method value that is handed to rise and sink. -/
abbrev fAhead (b : Nat) : Value := .func (.func 22) #[.pointer (some ⟨b, 0, none⟩)] #[]

def RiseInv (w : World) (b g n c : Nat) (zs0 : List Wt) (p : Int) (gh : Nat) (vi : Value) (wr : World) : Prop :=
  ∃ (k : Nat) (zs : List Wt), vi = .int .i64 (k : Int) ∧ k = gh ∧ k < n ∧ RiseAt zs k ∧ zs.Perm zs0 ∧ HF wr b g n c zs p ∧ Out (fun k => k = g) w wr
/-- A heap again, of the same. -/
def Settled (w : World) (b g n c : Nat) (zs0 : List Wt) (p : Int) (w' : World) : Prop :=
  ∃ zs : List Wt, HeapAt zs ∧ zs.Perm zs0 ∧ HF w' b g n c zs p ∧ Out (fun k => k = g) w w'

set_option maxRecDepth 100000 in
set_option maxHeartbeats 1000000 in
theorem rise_any (b g n c i : Nat) (zs : List Wt) (p : Int) (w : World) (h : HF w b g n c zs p) (hi : i < n) (hn : n ≤ 1000000) (hr : RiseAt zs i) :
    Calls Try.prog 26 #[.pointer (some ⟨b, 0, none⟩), .int .i64 (i : Int), fAhead b] w fun e w' => e = .returned (.tuple #[]) ∧ Settled w b g n c zs p w' := by
  go_enter Try.func26, Try.ntmps26
  go_wp2_with fail
  go_loopg [1] i (fun gh vi wr => RiseInv w b g n c zs p gh vi wr)
  case atStart => exact ⟨i, zs, rfl, rfl, hi, hr, List.Perm.refl _, h, Out.refl _ _⟩
  case round =>
    clear h hr
    obtain ⟨k, ys, rfl, rfl, hk, hr, hp, h, o⟩ := hrel
    by_cases hk0 : k = 0
    · subst hk0
      go_wp2_with fail
      go_end0
      exact ⟨rfl, ys, rise_end hr (.inl rfl), hp, h, o⟩
    · obtain ⟨q, hq⟩ : ∃ q, par k = q := ⟨_, rfl⟩
      have HQ := Lib.hid hq
      have e1 : ((k : Int) - 1).tdiv 2 = (q : Int) := by rw [Int.tdiv_eq_ediv_of_nonneg (by omega)]; unfold par at hq; omega
      have e2 : ((k : Int) - 1) / 2 = (q : Int) := by unfold par at hq; omega
      have hqk : q < k := by rw [← hq]; exact par_lt (by omega)
      have hqn : q < n := by omega
      have k1 : (0 : Int) < (k : Int) := by omega
      have k2 : (k : Int) ≤ 1000000 := by omega
      have kl := h.len
      have HA := Lib.hid (ahead_any b g n c k q ys p wr h hk hqn)
      have H := Lib.hid h
      have HR := Lib.hid hr
      clear h hr hq kl
      by_cases hlt : (nth ys k).lt (nth ys q)
      · have hd : decide ((nth ys k).lt (nth ys q)) = true := by simpa using hlt
        go_wp2_with (first
          | (go_at_call 22; refine HA.out.mono ?_; rw [hd]; rintro e w1 ⟨rfl, B1⟩; have H1 := H.out.kept B1)
          | (go_at_call 20; refine (swap_any b g n c k q ys p _ H1 hk hqn).mono ?_; rintro e w2 ⟨rfl, H2, o2⟩))
        go_roundg q
        case measure => omega
        case rel =>
          have hq := HQ.out
          subst hq
          have hl := H.out.len
          exact ⟨par k, _, rfl, rfl, hqn, rise_next HR.out (by omega) (by omega) hlt, (swq_perm (by omega) (by omega)).trans hp, H2, (o.new B1).trans o2 (fun _ _ e => e)⟩
      · have hd : decide ((nth ys k).lt (nth ys q)) = false := by simpa using hlt
        go_wp2_with (first
          | (go_at_call 22; refine HA.out.mono ?_; rw [hd]; rintro e w1 ⟨rfl, B1⟩))
        refine bodyPost_ret (results_none rfl _ _ _) rfl ?_
        have hq := HQ.out
        subst hq
        exact ⟨rfl, ys, rise_end HR.out (.inr hlt), hp, H.out.kept B1, o.new B1⟩

def SinkInv (w : World) (b g n c i : Nat) (zs0 : List Wt) (p : Int) (gh : Nat) (vi : Value) (wr : World) : Prop :=
  ∃ (k : Nat) (zs : List Wt), vi = .int .i64 (k : Int) ∧ n - k = gh ∧ k ≤ 1000000 ∧ SinkAt zs i k ∧ zs.Perm zs0 ∧ HF wr b g n c zs p ∧ Out (fun k => k = g) w wr
def FirstInv (w : World) (b g n c k : Nat) (zs : List Wt) (p : Int) (gh : Nat) (vf vb : Value) (wr : World) : Prop :=
  ∃ m f : Nat, vf = .int .i64 (f : Int) ∧ vb = .int .i64 ((2 * k + 1 + m : Nat) : Int) ∧ 2 - m = gh ∧ m ≤ 2 ∧ FirstAt zs k m f ∧ HF wr b g n c zs p ∧ Out (fun k => k = g) w wr
/-- From i on down a heap, of the same. -/
def Sunk (w : World) (b g n c i : Nat) (zs0 : List Wt) (p : Int) (w' : World) : Prop :=
  ∃ zs : List Wt, SunkAt zs i ∧ zs.Perm zs0 ∧ HF w' b g n c zs p ∧ Out (fun k => k = g) w w'

set_option maxRecDepth 100000 in
set_option maxHeartbeats 2000000 in
theorem sink_any (b g n c i : Nat) (zs : List Wt) (p : Int) (w : World) (h : HF w b g n c zs p) (hi : i ≤ 1000000) (hn : n ≤ 1000000) (hr : SunkAt zs (i + 1)) :
    Calls Try.prog 21 #[.pointer (some ⟨b, 0, none⟩), .int .i64 (i : Int), fAhead b] w fun e w' => e = .returned (.tuple #[]) ∧ Sunk w b g n c i zs p w' := by
  go_enter Try.func21, Try.ntmps21
  go_wp2_with fail
  go_loopg [1] (n - i) (fun gh vi wr => SinkInv w b g n c i zs p gh vi wr)
  case atStart => exact ⟨i, zs, rfl, rfl, hi, sink_start hr, List.Perm.refl _, h, Out.refl _ _⟩
  case round =>
    clear h hr
    obtain ⟨k, ys, rfl, rfl, hk, hr, hp, h, o⟩ := hrel
    have k2 : (k : Int) ≤ 1000000 := by omega
    have k3 : (0 : Int) ≤ (k : Int) := by omega
    have HR := Lib.hid hr
    have H0 := Lib.hid h
    clear h hr
    go_wp2_with fail
    go_loopg [6, 7] 2 (fun gh vf vb wr => FirstInv w b g n c k ys p gh vf vb wr)
    case atStart => exact ⟨0, k, rfl, by go_num, rfl, by omega, first_start ys k, H0.out, o⟩
    case round =>
      clear H0 o
      obtain ⟨m, f, rfl, rfl, rfl, hm, hf, h, o⟩ := hrel
      have hl := h.len
      have c0 := h.c0
      obtain ⟨bl, hbl⟩ : ∃ bl, 2 * k + 1 + m = bl := ⟨_, rfl⟩
      rw [hbl]
      by_cases hgo : m < 2 ∧ bl < n
      · have g1 : (bl : Int) ≤ 2 * (k : Int) + 2 := by omega
        have g2 : (bl : Int) < (n : Int) := by omega
        have g3 : (bl : Int) ≤ 3000000 := by omega
        have hfn : f < n := by have := first_lt hf (by omega); omega
        have HA := Lib.hid (ahead_any b g n c bl f ys p wr h hgo.2 hfn)
        have H := Lib.hid h
        have HF' := Lib.hid hf
        have HB := Lib.hid hbl
        have HM : m < 2 := hgo.1
        have HN := Lib.hid hgo.2
        clear h hf hbl hgo hl
        by_cases hlt : (nth ys bl).lt (nth ys f)
        · have hd : decide ((nth ys bl).lt (nth ys f)) = true := by simpa using hlt
          go_wp2_with (first
            | (go_at_call 22; refine HA.out.mono ?_; rw [hd]; rintro e w1 ⟨rfl, B1⟩))
          go_roundg (2 - (m + 1))
          case measure => omega
          case rel =>
            have hb := HB.out
            subst hb
            have hl := H.out.len
            exact ⟨m + 1, _, rfl, by go_num, rfl, by omega, first_yes HF'.out (by have := HN.out; omega) hlt, H.out.kept B1, o.new B1⟩
        · have hd : decide ((nth ys bl).lt (nth ys f)) = false := by simpa using hlt
          go_wp2_with (first
            | (go_at_call 22; refine HA.out.mono ?_; rw [hd]; rintro e w1 ⟨rfl, B1⟩))
          go_roundg (2 - (m + 1))
          case measure => omega
          case rel =>
            have hb := HB.out
            subst hb
            exact ⟨m + 1, f, rfl, by go_num, rfl, by omega, first_no HF'.out hlt, H.out.kept B1, o.new B1⟩
      · have g3 : (bl : Int) ≤ 3000000 := by omega
        have hend : m = 2 ∨ (ys.length ≤ 2 * k + 1 + m ∧ m ≤ 2) := by omega
        by_cases hfk : f = k
        · subst hfk
          have HE := Lib.hid (sink_end HR.out hf (by omega))
          have H := Lib.hid h
          by_cases hm2 : m < 2
          · have g1 : (bl : Int) ≤ 2 * (f : Int) + 2 := by omega
            have g2 : (n : Int) ≤ (bl : Int) := by omega
            clear hf h hend hgo hbl hl
            go_wp2_with fail
            refine bodyPost_ret (results_none rfl _ _ _) rfl ?_
            exact ⟨rfl, ys, HE.out, hp, H.out, o⟩
          · have g1 : 2 * (f : Int) + 2 < (bl : Int) := by omega
            clear hf h hend hgo hbl hl
            go_wp2_with fail
            refine bodyPost_ret (results_none rfl _ _ _) rfl ?_
            exact ⟨rfl, ys, HE.out, hp, H.out, o⟩
        · have hfl : k < f ∧ f < ys.length := by
            rcases hf.1 with e | ⟨e1, e2, e3, _⟩
            · exact absurd e hfk
            · omega
          have HN := Lib.hid (sink_next HR.out hf hend hfk (by omega))
          have HS := Lib.hid (swap_any b g n c k f ys p wr h (by omega) (by omega))
          have hfk' : ¬ (f : Int) = (k : Int) := by omega
          have HP := Lib.hid (swq_perm (zs := ys) (i := k) (j := f) (by omega) (by omega))
          by_cases hm2 : m < 2
          · have g1 : (bl : Int) ≤ 2 * (k : Int) + 2 := by omega
            have g2 : (n : Int) ≤ (bl : Int) := by omega
            have e1 : n - f < n - k := by omega
            have e2 : f ≤ 1000000 := by omega
            clear hf h hend hgo hbl hl hfl
            go_wp2_with (first
              | (go_at_call 20; refine HS.out.mono ?_; rintro e w2 ⟨rfl, H2, o2⟩))
            go_roundg (n - f)
            case measure => exact e1
            case rel => exact ⟨f, _, rfl, rfl, e2, HN.out.1, HP.out.trans hp, H2, o.trans o2 (fun _ _ e => e)⟩
          · have g1 : 2 * (k : Int) + 2 < (bl : Int) := by omega
            have e1 : n - f < n - k := by omega
            have e2 : f ≤ 1000000 := by omega
            clear hf h hend hgo hbl hl hfl
            go_wp2_with (first
              | (go_at_call 20; refine HS.out.mono ?_; rintro e w2 ⟨rfl, H2, o2⟩))
            go_roundg (n - f)
            case measure => exact e1
            case rel => exact ⟨f, _, rfl, rfl, e2, HN.out.1, HP.out.trans hp, H2, o.trans o2 (fun _ _ e => e)⟩
end Go.Proofs.Ytmdlbjeiokadaaa
