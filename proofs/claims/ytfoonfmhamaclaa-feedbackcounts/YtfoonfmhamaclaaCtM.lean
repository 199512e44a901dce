/- A play of packets and answers: what the sender's count is beside the receiver's. Plain facts. -/
import Derived.Test.YtfoonfmhamaclaaCtA
namespace Go.Proofs.Ytfoonfmhamaclaa
set_option linter.unusedVariables false

/-- The stamp of a place. -/
def stp (k : Nat) : Int := (4294967246 + (k : Int)) % 4294967296
theorem stp_bd (k : Nat) : 0 ≤ stp k ∧ stp k ≤ 4294967295 := by unfold stp; omega
theorem stp_dif {k l : Nat} (hk : k ≤ 100) (hl : l ≤ 100) : dif (stp k) (stp l) 32 = (k : Int) - (l : Int) := by
  have h1 : hf 32 = 2147483648 := by decide
  have h2 : rd 32 = 4294967296 := by decide
  unfold dif stp
  rw [h1, h2]
  omega
/-- A sender that took the answer of place l last (behind l packets), and fields behind t packets. -/
structure PF (ks : List Int) (n : Int) (l t : Nat) (ex : Bool) (s : Sn) : Prop where
  tl : t ≤ l
  lN : l ≤ 100
  mss : s.mss = n
  stamp : (s.t = 0 ∧ l = 0) ∨ (0 < s.t ∧ 0 < l ∧ s.x = stp (l - 1))
  f0 : s.f0 = (cfT ks n t).e0
  f1 : s.f1 = (cfT ks n t).ceb
  f2 : s.f2 = (cfT ks n t).e1
  ba : s.ba = (cfT ks n t).cep
  le : s.m ≤ (cfT ks n l).cep
  mod : s.m % 8 = (cfT ks n l).cep % 8
  exact' : ex = true → s.m = (cfT ks n l).cep
theorem pf_start (ks : List Int) (n : Int) : PF ks n 0 0 true ⟨0, 0, 0, n, 5, 5, 1, 0, 1⟩ := ⟨Nat.le_refl _, by omega, rfl, .inl ⟨rfl, rfl⟩, rfl, rfl, rfl, rfl, Int.le_refl _, rfl, fun _ => rfl⟩
/-- A stamp that is not taken changes nothing of it. -/
theorem PF.not {ks : List Int} {n : Int} {l t : Nat} {ex : Bool} {s : Sn} (h : PF ks n l t ex s) : PF ks n l t ex ⟨s.x, s.t, s.p + 1, s.mss, s.m, s.ba, s.f0, s.f1, s.f2⟩ := ⟨h.tl, h.lN, h.mss, h.stamp, h.f0, h.f1, h.f2, h.ba, h.le, h.mod, h.exact'⟩
/-- What is taken is newer. -/
theorem PF.newer {ks : List Int} {n : Int} {l t k : Nat} {ex : Bool} {s : Sn} (h : PF ks n l t ex s) (hk : k < 100) (hn : nwR (stp k) s.x s.t = true) : l < k + 1 := by
  have hl := h.lN
  rcases h.stamp with ⟨_, h2⟩ | ⟨h1, h2, h3⟩
  · omega
  · rw [nwR_s _ _ h1, h3, stp_dif (by omega) (by omega)] at hn
    simp at hn
    omega
def akN (ks : List Int) (n : Int) (k : Nat) : Ak := ⟨0, stp k, (cfT ks n (k + 1)).cep % 8, -1, -1, -1⟩
def akT (ks : List Int) (n : Int) (k : Nat) : Ak := ⟨0, stp k, (cfT ks n (k + 1)).cep % 8, (cfT ks n (k + 1)).e0 % 16777216, (cfT ks n (k + 1)).ceb % 16777216, (cfT ks n (k + 1)).e1 % 16777216⟩
theorem akN_ok (ks : List Int) (n : Int) (k : Nat) : OkA (akN ks n k) := ⟨stp_bd k, by simp only [akN]; omega, by unfold int64F; simp only [akN]; omega, by unfold int64F; simp only [akN]; omega, by unfold int64F; simp only [akN]; omega⟩
theorem akT_ok (ks : List Int) (n : Int) (k : Nat) : OkA (akT ks n k) := ⟨stp_bd k, by simp only [akT]; omega, by unfold int64F; simp only [akT]; omega, by unfold int64F; simp only [akT]; omega, by unfold int64F; simp only [akT]; omega⟩
theorem wr_N (ks : List Int) (n : Int) (k : Nat) : wrK (akN ks n k) = false := by unfold wrK wrF akN; simp; omega
theorem wr_T (ks : List Int) (n : Int) (k : Nat) : wrK (akT ks n k) = false := by unfold wrK wrF akT; simp; omega
theorem fr_no (f : Int) : frF f (-1) = true := by unfold frF toF; simp
theorem fo_no {f : Int} (h : f ≤ 9223372036854775807) : foF f (-1) = f := by
  have : stF f (-1) = 0 := by unfold stF toF; simp
  unfold foF raF
  rw [this, if_neg (by omega)]; omega
theorem st_to {o b : Int} (hb : 0 ≤ b ∧ b < 8388608) : stF o ((o + b) % 16777216) = b := by
  have e : fdF o ((o + b) % 16777216) = b := by unfold fdF; omega
  have t : toF o ((o + b) % 16777216) = b := by unfold toF; rw [e, if_neg (by omega)]
  unfold stF
  rw [t, if_neg (by omega)]
/-- Behind an answer without fields. -/
theorem PF.untold {ks : List Int} {n : Int} {l t k i : Nat} {ex : Bool} {s : Sn} (h : PF ks n l t ex s) (hn : 1 ≤ n ∧ n ≤ 65536) (hs : OkS i s) (hk : k < 100) :
    (erK s (akN ks n k) = 11 ∧ PF ks n l t ex (tkK s (akN ks n k))) ∨ (erK s (akN ks n k) = 0 ∧ PF ks n (k + 1) t (ex && decide ((cfT ks n (k + 1)).cep - (cfT ks n l).cep ≤ 7)) (tkK s (akN ks n k))) := by
  have hw := wr_N ks n k
  have hf : frK s (akN ks n k) = true := by unfold frK akN; simp only [fr_no]; rfl
  unfold tkK erK
  simp only [if_neg (show ¬ wrK (akN ks n k) = true by simp [hw]), if_neg (show ¬ frK s (akN ks n k) = false by simp [hf])]
  by_cases hx : nwR (akN ks n k).s s.x s.t = true
  · simp only [if_pos hx]
    have hlt := h.newer hk hx
    obtain ⟨u1, u2, u3, u4, u5⟩ := cfT_le ks hn (show l ≤ k + 1 by omega)
    obtain ⟨q1, q2, q3, q4, q5, q6, q7, q8, q9, q10⟩ := hs
    have p1 := h.le
    have p2 := h.mod
    have p3 := h.exact'
    have e1 : nxK s (akN ks n k) = s.m + stpA s.m ((cfT ks n (k + 1)).cep % 8) := by unfold nxK; rw [if_pos (.inl rfl)]; rfl
    have e2 := stpA_bd s.m ((cfT ks n (k + 1)).cep % 8)
    have e3 : stpA s.m ((cfT ks n (k + 1)).cep % 8) = ((cfT ks n (k + 1)).cep - s.m) % 8 := by unfold stpA; omega
    refine .inr ⟨trivial, ⟨by have := h.tl; omega, by omega, h.mss, .inr ⟨by simp only [tnK]; omega, by omega, rfl⟩, ?_, ?_, ?_, ?_, ?_, ?_, ?_⟩⟩
    · show foF s.f0 (-1) = _
      rw [fo_no (by omega)]; exact h.f0
    · show foF s.f1 (-1) = _
      rw [fo_no (by omega)]; exact h.f1
    · show foF s.f2 (-1) = _
      rw [fo_no (by omega)]; exact h.f2
    · exact h.ba
    · show nxK s (akN ks n k) ≤ _
      rw [e1, e3]; omega
    · show nxK s (akN ks n k) % 8 = _
      rw [e1, e3]; omega
    · intro hx2
      simp at hx2
      have p4 := p3 hx2.1
      have p5 := hx2.2
      show nxK s (akN ks n k) = _
      rw [e1, e3]; omega
  · simp only [if_neg hx]
    exact .inl ⟨trivial, h.not⟩
/-- Behind an answer that tells all fields. -/
theorem PF.told {ks : List Int} {n : Int} {l t k i : Nat} {ex : Bool} {s : Sn} (h : PF ks n l t ex s) (hn : 1 ≤ n ∧ n ≤ 65536) (hs : OkS i s) (hk : k < 100) :
    (erK s (akT ks n k) = 11 ∧ PF ks n l t ex (tkK s (akT ks n k))) ∨ (erK s (akT ks n k) = 0 ∧ PF ks n (k + 1) (k + 1) true (tkK s (akT ks n k))) := by
  have hw := wr_T ks n k
  unfold tkK erK
  simp only [if_neg (show ¬ wrK (akT ks n k) = true by simp [hw])]
  by_cases hf : frK s (akT ks n k) = false
  · simp only [if_pos hf]; exact .inl ⟨trivial, h⟩
  · simp only [if_neg hf]
    by_cases hx : nwR (akT ks n k).s s.x s.t = true
    · simp only [if_pos hx]
      have hlt := h.newer hk hx
      have htl := h.tl
      obtain ⟨u1, u2, u3, u4, u5⟩ := cfT_le ks hn (show t ≤ k + 1 by omega)
      obtain ⟨x1, _, _, _, _⟩ := cfT_le ks hn (show l ≤ k + 1 by omega)
      obtain ⟨v1, v2, v3, v4⟩ := cfT_ok ks hn (k + 1)
      obtain ⟨z1, z2, z3, z4⟩ := cfT_ok ks hn t
      have p1 := h.le
      have g0 := h.f0
      have g1 := h.f1
      have g2 := h.f2
      have g3 := h.ba
      have g4 := h.mss
      have e1 : nxK s (akT ks n k) = (cfT ks n (k + 1)).cep := by
        have c0 : byK s (akT ks n k) = (cfT ks n (k + 1)).cep := by
          unfold byK
          show s.ba + gueA s.ba ((cfT ks n (k + 1)).cep % 8) (stF s.f1 ((cfT ks n (k + 1)).ceb % 16777216)) s.mss = _
          obtain ⟨r, hr⟩ : ∃ r, r = (cfT ks n (k + 1)).cep - (cfT ks n t).cep := ⟨_, rfl⟩
          rw [← hr] at u5
          have c1 : (cfT ks n (k + 1)).ceb = s.f1 + r * n := by omega
          rw [c1, st_to (by omega), g4]
          have c2 : (cfT ks n (k + 1)).cep = s.ba + r := by omega
          rw [c2]
          by_cases h0 : r = 0
          · rw [h0, Int.zero_mul, Int.add_zero, guess_none]; omega
          · have hp : 0 < r * n := Int.mul_pos (by omega) (by omega)
            rw [guess_full (by omega) hp (by omega)]
        unfold nxK
        rw [if_neg, c0]
        rw [c0]
        have : ¬ (cfT ks n (k + 1)).ceb % 16777216 = -1 := by omega
        rintro (q | q)
        · exact this q
        · omega
      refine .inr ⟨trivial, ⟨Nat.le_refl _, by omega, h.mss, .inr ⟨by simp only [tnK]; omega, by omega, rfl⟩, ?_, ?_, ?_, ?_, ?_, ?_, ?_⟩⟩
      · show foF s.f0 ((cfT ks n (k + 1)).e0 % 16777216) = _
        have c1 : (cfT ks n (k + 1)).e0 = s.f0 + ((cfT ks n (k + 1)).e0 - s.f0) := by omega
        rw [c1, back_fo _ _ (by omega) (by omega)]
      · show foF s.f1 ((cfT ks n (k + 1)).ceb % 16777216) = _
        have c1 : (cfT ks n (k + 1)).ceb = s.f1 + ((cfT ks n (k + 1)).ceb - s.f1) := by omega
        rw [c1, back_fo _ _ (by omega) (by omega)]
      · show foF s.f2 ((cfT ks n (k + 1)).e1 % 16777216) = _
        have c1 : (cfT ks n (k + 1)).e1 = s.f2 + ((cfT ks n (k + 1)).e1 - s.f2) := by omega
        rw [c1, back_fo _ _ (by omega) (by omega)]
      · show (if (cfT ks n (k + 1)).ceb % 16777216 = -1 then s.ba else nxK s (akT ks n k)) = _
        rw [if_neg (by omega), e1]
      · show nxK s (akT ks n k) ≤ _
        rw [e1]; exact Int.le_refl _
      · show nxK s (akT ks n k) % 8 = _
        rw [e1]
      · intro _
        show nxK s (akT ks n k) = _
        rw [e1]
    · simp only [if_neg hx]
      exact .inl ⟨trivial, h.not⟩
end Go.Proofs.Ytfoonfmhamaclaa
