/- Package feedback: an acknowledgement, a sender, what one learns of it: plain facts. -/
import Derived.Test.YtfoonfmhamaclaaAceB
import Derived.Test.YtfoonfmhamaclaaFldB
import Derived.Test.YtfoonfmhamaclaaFreA
namespace Go.Proofs.Ytfoonfmhamaclaa
set_option linter.unusedVariables false

structure Ak where
  (u s c t0 t1 t2 : Int)
structure Sn where
  (x : Int) (t p : Nat) (mss m ba f0 f1 f2 : Int)
def akV (a : Ak) : List Value := [.int .i64 a.u, .int .u32 a.s, .int .u8 a.c, .int .i64 a.t0, .int .i64 a.t1, .int .i64 a.t2]
def snV (s : Sn) : List Value := [.int .u32 s.x, .int .i64 (s.t : Int), .int .i64 (s.p : Int), .int .i64 s.mss, .int .i64 s.m, .int .i64 s.ba, .int .i64 s.f0, .int .i64 s.f1, .int .i64 s.f2]
/-- Is a field that is told wrong? -/
def wrF (t : Int) : Bool := decide (t < -1 ∨ 16777215 < t)
def wrK (a : Ak) : Bool := wrF a.t0 || wrF a.t1 || wrF a.t2 || decide (7 < a.c)
def frK (s : Sn) (a : Ak) : Bool := frF s.f0 a.t0 && frF s.f1 a.t1 && frF s.f2 a.t2
/-- By the bytes. -/
def byK (s : Sn) (a : Ak) : Int := s.ba + gueA s.ba a.c (stF s.f1 a.t1) s.mss
def nxK (s : Sn) (a : Ak) : Int := if a.t1 = -1 ∨ byK s a < s.m then s.m + stpA s.m a.c else byK s a
def tnK (s : Sn) (a : Ak) : Sn := ⟨a.s, s.t + 1, s.p, s.mss, nxK s a, if a.t1 = -1 then s.ba else nxK s a, foF s.f0 a.t0, foF s.f1 a.t1, foF s.f2 a.t2⟩
def tkK (s : Sn) (a : Ak) : Sn := if wrK a = true then s else if frK s a = false then s else if nwR a.s s.x s.t = true then tnK s a else ⟨s.x, s.t, s.p + 1, s.mss, s.m, s.ba, s.f0, s.f1, s.f2⟩
def erK (s : Sn) (a : Ak) : Int := if wrK a = true then 2 else if frK s a = false then 11 else if nwR a.s s.x s.t = true then 0 else 11
structure OkA (a : Ak) : Prop where
  s : 0 ≤ a.s ∧ a.s ≤ 4294967295
  c : 0 ≤ a.c ∧ a.c ≤ 255
  t0 : int64F a.t0
  t1 : int64F a.t1
  t2 : int64F a.t2
/-- Behind so many. -/
structure OkS (n : Nat) (s : Sn) : Prop where
  few : n ≤ 100
  x : 0 ≤ s.x ∧ s.x ≤ 4294967295
  t : s.t ≤ n
  p : s.p ≤ n
  mss : int64F s.mss
  m : 0 ≤ s.m ∧ s.m ≤ 1099511627776 + 2199023255552 * (n : Int)
  ba : 0 ≤ s.ba ∧ s.ba ≤ s.m
  f0 : 0 ≤ s.f0 ∧ s.f0 ≤ 1 + 8388607 * (n : Int)
  f1 : 0 ≤ s.f1 ∧ s.f1 ≤ 1 + 8388607 * (n : Int)
  f2 : 0 ≤ s.f2 ∧ s.f2 ≤ 1 + 8388607 * (n : Int)
theorem gue_bd (l c b m : Int) : 0 ≤ gueA l c b m ∧ gueA l c b m ≤ 1099511627783 := by
  have h1 := stpA_bd l c
  by_cases h : b ≤ 0 ∨ m ≤ 0
  · unfold gueA; rw [if_pos h]; omega
  · have h2 := capA_bd b (by omega)
    have h3 := upA_bd (b := capA b) (m := m) h2.1 (by omega)
    have h4 := fromA_bd (upA (capA b) m) (stpA l c)
    unfold gueA; rw [if_neg h]; omega
theorem fo_bd {n : Nat} {f t : Int} (hn : n ≤ 100) (h : 0 ≤ f ∧ f ≤ 1 + 8388607 * (n : Int)) : foF f t = f + stF f t ∧ 0 ≤ foF f t ∧ foF f t ≤ 1 + 8388607 * ((n + 1 : Nat) : Int) := by
  have h1 := stF_bd f t
  have e : foF f t = f + stF f t := by unfold foF raF; rw [if_neg (by omega)]
  omega
theorem nx_bd {n : Nat} {s : Sn} (h : OkS n s) (a : Ak) : s.m ≤ nxK s a ∧ nxK s a ≤ s.m + 1099511627783 := by
  have h1 := stpA_bd s.m a.c
  have h2 := gue_bd s.ba a.c (stF s.f1 a.t1) s.mss
  have h3 := h.ba
  unfold nxK byK
  split <;> omega
theorem ok_more {n : Nat} {s : Sn} {a : Ak} (hn : n < 100) (h : OkS n s) (k : OkA a) : OkS (n + 1) (tkK s a) := by
  obtain ⟨q1, q2, q3, q4, q5, q6, q7, q8, q9, q10⟩ := h
  have hb := nx_bd ⟨q1, q2, q3, q4, q5, q6, q7, q8, q9, q10⟩ a
  have e0 := (fo_bd (t := a.t0) q1 q8).2
  have e1 := (fo_bd (t := a.t1) q1 q9).2
  have e2 := (fo_bd (t := a.t2) q1 q10).2
  have ks := k.s
  unfold tkK
  split
  · exact ⟨by omega, q2, by omega, by omega, q5, by omega, q7, by omega, by omega, by omega⟩
  · split
    · exact ⟨by omega, q2, by omega, by omega, q5, by omega, q7, by omega, by omega, by omega⟩
    · split
      · exact ⟨by omega, ks, by simp only [tnK]; omega, by simp only [tnK]; omega, q5, by simp only [tnK]; omega, by simp only [tnK]; split <;> omega, e0, e1, e2⟩
      · exact ⟨by omega, q2, by simp only []; omega, by simp only []; omega, q5, by simp only []; omega, q7, by simp only []; omega, by simp only []; omega, by simp only []; omega⟩
/-- Modulo 8 it is what was told. -/
theorem nx_mod {s : Sn} {a : Ak} (hc : 0 ≤ a.c ∧ a.c ≤ 7) : nxK s a % 8 = a.c := by
  unfold nxK
  split
  · unfold stpA; omega
  · unfold byK gueA
    split
    · unfold stpA; omega
    · have := fromA_mod (upA (capA (stF s.f1 a.t1)) s.mss) (stpA s.ba a.c) (stpA_bd _ _)
      unfold stpA at *
      omega
end Go.Proofs.Ytfoonfmhamaclaa
