/- Package ring at int: Push. -/
import Derived.Test.YtamcakckbabeiaaRingIC
namespace Go.Proofs.Ytamcakckbabeiaa
namespace R0
open Go.RowKit
set_option linter.unusedVariables false

/-- A row at block b, its slots at block g (if there are any), with these items, of at most so many. -/
def IsRing (w : World) (b g : Nat) (zs : List Int) (most : Nat) : Prop := (RE w b most ∧ zs = [] ∧ g < w.heap.size) ∨ ∃ n c f cur, RF w b g n c f cur zs most
theorem IsRing.lt {w : World} {b g most : Nat} {zs : List Int} (h : IsRing w b g zs most) : b < w.heap.size ∧ g < w.heap.size := by
  rcases h with ⟨h, _, hg⟩ | ⟨n, c, f, cur, h⟩
  · exact ⟨h.1.lt, hg⟩
  · exact ⟨h.1.lt, h.2.1.lt⟩
theorem IsRing.out {F : Nat → Prop} {w w' : World} {b g most : Nat} {zs : List Int} (h : IsRing w b g zs most) (o : Out F w w') (hb : ¬ F b) (hg : ¬ F g) : IsRing w' b g zs most := by
  rcases h with ⟨h, rfl, hgl⟩ | ⟨n, c, f, cur, h⟩
  · exact .inl ⟨⟨h.1.out o hb, h.2⟩, rfl, Nat.lt_of_lt_of_le hgl o.size⟩
  · exact .inr ⟨n, c, f, cur, h.out o hb hg⟩
theorem IsRing.kept {w w' : World} {b g most : Nat} {zs : List Int} (h : IsRing w b g zs most) (o : Below w.heap.size w w') : IsRing w' b g zs most := h.out (F := fun _ => False) (Out.of o _) (fun x => x) (fun x => x)
theorem IsRing.draw {w : World} {b g most : Nat} {zs : List Int} (h : IsRing w b g zs most) (n : Nat) : IsRing (w.drewN n) b g zs most := h
theorem IsRing.le {w : World} {b g most : Nat} {zs : List Int} (h : IsRing w b g zs most) : zs.length ≤ most ∧ most ≤ 65536 := by
  rcases h with ⟨h, rfl, hgl⟩ | ⟨n, c, f, cur, hB, hG, hc, hgb, h1, hnc, hcm, hnm, hmm, hf, hzn, ht⟩
  · exact ⟨by simp, h.2⟩
  · exact ⟨by omega, hmm⟩
theorem IsRing.c2 {w : World} {b g most : Nat} {zs : List Int} (h : IsRing w b g zs most) : w.cell? ⟨b, 2, none⟩ = some (.int .i64 (zs.length : Int)) := by
  rcases h with ⟨h, rfl, hgl⟩ | ⟨n, c, f, cur, h⟩
  · exact h.1.c2
  · exact h.1.c2
theorem IsRing.c3 {w : World} {b g most : Nat} {zs : List Int} (h : IsRing w b g zs most) : w.cell? ⟨b, 3, none⟩ = some (.int .i64 (most : Int)) := by
  rcases h with ⟨h, rfl, hgl⟩ | ⟨n, c, f, cur, h⟩
  · exact h.1.c3
  · exact h.1.c3

/-- The row's own blocks. -/
def foot (b g : Nat) (k : Nat) : Prop := k = b ∨ k = g

/-- What a call that changes the row leaves. -/
def Turns (w : World) (b g : Nat) (v : Value) (zs : List Int) (most : Nat) (e : Ending) (w' : World) : Prop :=
  ∃ g', e = .returned v ∧ IsRing w' b g' zs most ∧ (g' = g ∨ w.heap.size ≤ g') ∧ Out (foot b g) w w'

theorem push_full (b g : Nat) (x : Int) (zs : List Int) (most : Nat) (w : World) (h : IsRing w b g zs most) (hz : zs.length = most) :
    Calls Try.prog 26 #[.pointer (some ⟨b, 0, none⟩), .int .i64 x] w (Reads w (.int .i64 9)) := by
  have c2 := h.c2
  have c3 := h.c3
  rw [hz] at c2
  clear hz h
  go_enter Try.func26, Try.ntmps26
  go_wp2_with fail
  go_quiet (fail)
  go_wp2_with fail
  go_ret
  exact ⟨rfl, _, rfl⟩
theorem push_nil (x : Int) (w : World) :
    Calls Try.prog 26 #[.pointer none, .int .i64 x] w fun e w' => e = .returned (.int .i64 1) ∧ w = w' := by
  go_enter Try.func26, Try.ntmps26
  go_wp2_with fail
  go_ret
  exact ⟨rfl, rfl⟩

theorem turned_push {n f : Nat} {cur zs : List Int} {x : Int} (hf : f < n) (hz : zs.length < n) (hc : n ≤ cur.length) (ht : Turned n f cur zs) : Turned n f (cur.set ((f + zs.length) % n) x) (zs ++ [x]) := by
  intro i hi
  rw [List.length_append, List.length_singleton] at hi
  have hp : (f + zs.length) % n < cur.length := by have := Nat.mod_lt (f + zs.length) (show 0 < n by omega); omega
  by_cases e : i = zs.length
  · subst e
    simp [hp]
  · rw [List.getElem?_set_ne (round_ne hf (by omega) (by omega) (by omega)), List.getElem?_append_left (by omega)]
    exact ht i (by omega)

/-- The item is stored, and counted. -/
theorem pushed {w : World} {b g n c f p most m : Nat} {cur zs : List Int} {x : Int} (h : RF w b g n c f cur zs most) (hp : (f + zs.length) % n = p) (hz : zs.length < n) :
    RF (((w.drewN m).setCell ⟨g, p, none⟩ (.int .i64 x)).setCell ⟨b, 2, none⟩ (.int .i64 ((zs.length : Int) + 1))) b g n c f (cur.set p x) (zs ++ [x]) most := by
  obtain ⟨hB, hG, hc, hgb, h1, hnc, hcm, hnm, hmm, hf, hzn, ht⟩ := h
  subst hp
  refine ⟨?_, ?_, by simpa using hc, hgb, h1, hnc, hcm, hnm, hmm, hf, by simp; omega, turned_push hf hz (by omega) ht⟩
  · have h2 := (Blk.far (w := w.drewN m) hB (p := ⟨g, (f + zs.length) % n, none⟩) (fun e => hgb e.symm) (.int .i64 x)).set 2 (.int .i64 ((zs.length : Int) + 1))
    have e : ((zs ++ [x]).length : Int) = (zs.length : Int) + 1 := by simp
    unfold RB
    rw [e]
    exact h2
  · exact (Rw.set (hG.draw m) (by have := Nat.mod_lt (f + zs.length) (show 0 < n by omega); omega) x).far (p := ⟨b, 2, none⟩) hgb _
theorem pushed_out {w : World} {b g p m : Nat} {u v : Value} : Out (foot b g) w (((w.drewN m).setCell ⟨g, p, none⟩ u).setCell ⟨b, 2, none⟩ v) :=
  Out.set (p := ⟨b, 2, none⟩) (Out.set (p := ⟨g, p, none⟩) (Out.draw (Out.refl (foot b g) w) m) (.inl (.inr rfl)) u) (.inl (.inl rfl)) v

set_option maxRecDepth 100000 in
set_option maxHeartbeats 1000000 in
/-- There is room in the slots. -/
theorem push_room (b g n c f : Nat) (x : Int) (cur zs : List Int) (most : Nat) (w : World) (h : RF w b g n c f cur zs most) (hz : zs.length < n) :
    Calls Try.prog 26 #[.pointer (some ⟨b, 0, none⟩), .int .i64 x] w (Turns w b g (.int .i64 0) (zs ++ [x]) most) := by
  have H := h
  obtain ⟨hB, hG, hc, hgb, h1, hnc, hcm, hnm, hmm, hf, hzn, ht⟩ := h
  have c0 := hB.c0
  have c1 := hB.c1
  have c2 := hB.c2
  have c3 := hB.c3
  have f2 : w.frozen? ⟨b, 2, none⟩ = false := hB.frozen 2
  obtain ⟨p, hp⟩ : ∃ p, (f + zs.length) % n = p := ⟨_, rfl⟩
  have hx := H.slot (i := zs.length) hz
  rw [hp] at hx
  have fx : w.frozen? ⟨g, p, none⟩ = false := hG.frozen p
  have hpn : p < n := by have := Nat.mod_lt (f + zs.length) (show 0 < n by omega); omega
  have P := Lib.hid hp
  clear hp hB hG ht hc
  obtain ⟨k, hk⟩ : ∃ k, zs.length = k := ⟨_, rfl⟩
  obtain ⟨y, hy⟩ : ∃ y, cur[p]?.getD 0 = y := ⟨_, rfl⟩
  rw [hy] at hx
  rw [hk] at c2 hz hzn
  have P' : Hid ((f + k) % n = p) := by rw [hk] at P; exact P
  have K := Lib.hid hk
  clear hk hy
  have k0 : (0 : Int) ≤ (k : Int) := by omega
  have k1 : (0 : Int) ≤ (p : Int) := by omega
  have k2 : (p : Int) < (n : Int) := by omega
  have k3 : k < most := by omega
  have k4 : ¬ k = n := by omega
  have k5 : (k : Int) ≤ 65536 := by omega
  have k6 : k ≤ 65536 := by omega
  have k7 : f ≤ 65536 := by omega
  have hbg : ¬ b = g := fun e => hgb e.symm
  go_enter Try.func26, Try.ntmps26
  go_wp2_with fail
  go_quiet (fail)
  go_wp2_with fail
  go_quiet (fail)
  go_wp2_with fail
  go_region_held3 (fun w' => w'.cell? ⟨b, 0, none⟩ = some (.slice (some ⟨g, 0, none⟩) n c) ∧ w'.cell? ⟨b, 1, none⟩ = some (.int .i64 (f : Int)) ∧ w'.cell? ⟨b, 2, none⟩ = some (.int .i64 (k : Int)))
    (go_keep)
    (first | (go_at_call 32; refine (place_at b n c f k p (some ⟨g, 0, none⟩) _ ?_ ?_ h1 k7 k6 P').mono ?_; (exact c0); (exact c1); rintro e w' ⟨rfl, m, rfl⟩))
  go_wp2_with fail
  go_ret
  obtain rfl := K.out
  exact ⟨g, rfl, .inr ⟨n, c, f, _, pushed H P.out hz⟩, .inl rfl, pushed_out⟩

/-- What the walk wants of a row with room in its slots. -/
theorem RF.facts {w : World} {b g n c f most k : Nat} {cur zs : List Int} (h : RF w b g n c f cur zs most) (hk : zs.length = k) (hz : zs.length < n) :
    ∃ p y, Hid ((f + k) % n = p) ∧ p < n ∧ w.cell? ⟨b, 0, none⟩ = some (.slice (some ⟨g, 0, none⟩) n c) ∧ w.cell? ⟨b, 1, none⟩ = some (.int .i64 (f : Int)) ∧ w.cell? ⟨b, 2, none⟩ = some (.int .i64 (k : Int)) ∧ w.frozen? ⟨b, 2, none⟩ = false ∧
      w.cell? ⟨g, p, none⟩ = some (.int .i64 y) ∧ w.frozen? ⟨g, p, none⟩ = false ∧ 1 ≤ n ∧ n ≤ 65536 ∧ f ≤ 65536 ∧ ¬ b = g := by
  subst hk
  have hx := h.slot (i := zs.length) hz
  obtain ⟨hB, hG, hc, hgb, h1, hnc, hcm, hnm, hmm, hf, hzn, ht⟩ := h
  exact ⟨_, _, Lib.hid rfl, Nat.mod_lt _ (by omega), hB.c0, hB.c1, hB.c2, hB.frozen 2, hx, hG.frozen _, h1, by omega, by omega, fun e => hgb e.symm⟩

set_option maxRecDepth 100000 in
set_option maxHeartbeats 1000000 in
/-- The slots are full, or there are none: more are made first. -/
theorem push_wide (b g n c : Nat) (sp : Option Addr) (x : Int) (zs : List Int) (most : Nat) (w : World) (c0 : w.cell? ⟨b, 0, none⟩ = some (.slice sp n c)) (c2 : w.cell? ⟨b, 2, none⟩ = some (.int .i64 (n : Int))) (c3 : w.cell? ⟨b, 3, none⟩ = some (.int .i64 (most : Int)))
    (hz : zs.length = n) (hm : n < most) (hmm : most ≤ 65536) (hW : Hid (∀ m, Calls Try.prog 31 #[.pointer (some ⟨b, 0, none⟩)] (w.drewN m) (Widened (w.drewN m) b zs most))) :
    Calls Try.prog 26 #[.pointer (some ⟨b, 0, none⟩), .int .i64 x] w (Turns w b g (.int .i64 0) (zs ++ [x]) most) := by
  have Z := Lib.hid hz
  clear hz
  have k0 : (0 : Int) ≤ (n : Int) := by omega
  have k5 : (n : Int) ≤ 65536 := by omega
  have k6 : n ≤ 65536 := by omega
  go_enter Try.func26, Try.ntmps26
  go_wp2_with fail
  go_quiet (fail)
  go_wp2_with fail
  go_quiet (fail)
  go_wp2_with (go_at_call 31; refine (hW.out _).mono ?_; rintro e w1 ⟨g1, n1, rfl, hg1, hz1, R1, O1⟩; clear c0 c2 c3; obtain ⟨p, y, P, hpn, c0, c1, c2, f2, hx, fx, h1, hn1, hf1, hbg⟩ := R1.facts Z.out hz1; have hgb : g1 ≠ b := Ne.symm hbg; have k1 : (0 : Int) ≤ (p : Int) := (by omega); have k2 : (p : Int) < (n1 : Int) := (by omega))
  go_region_held3 (fun w' => w'.cell? ⟨b, 0, none⟩ = some (.slice (some ⟨g1, 0, none⟩) n1 n1) ∧ w'.cell? ⟨b, 1, none⟩ = some (.int .i64 ((0 : Nat) : Int)) ∧ w'.cell? ⟨b, 2, none⟩ = some (.int .i64 (n : Int)))
    (go_keep)
    (first | (go_at_call 32; refine (place_at b n1 n1 0 n p (some ⟨g1, 0, none⟩) _ ?_ ?_ h1 hf1 k6 P).mono ?_; (exact c0); (exact c1); rintro e w' ⟨rfl, m, rfl⟩))
  go_wp2_with fail
  go_ret
  obtain rfl := Z.out
  refine ⟨g1, rfl, .inr ⟨n1, n1, 0, _, pushed R1 P.out hz1⟩, .inr hg1, ?_⟩
  exact Out.trans (Out.mono (F := fun k => k = b) ⟨O1.os, O1.tape, O1.output, O1.size, O1.block⟩ (fun k hk => .inl hk)) pushed_out (fun i hi hf => by
    rcases hf with rfl | rfl
    · exact .inl rfl
    · exact absurd hi (Nat.not_lt.2 hg1))

/-- Push, below the most. -/
theorem push_any (b g : Nat) (x : Int) (zs : List Int) (most : Nat) (w : World) (h : IsRing w b g zs most) (hz : zs.length < most) :
    Calls Try.prog 26 #[.pointer (some ⟨b, 0, none⟩), .int .i64 x] w (Turns w b g (.int .i64 0) (zs ++ [x]) most) := by
  have hm := h.le.2
  rcases h with ⟨h, rfl, hgl⟩ | ⟨n, c, f, cur, h⟩
  · exact push_wide b g 0 0 none x [] most w h.1.c0 h.1.c2 h.1.c3 rfl hz hm (Lib.hid fun m => widen_none b most (w.drewN m) h hz)
  · by_cases e : zs.length < n
    · exact push_room b g n c f x cur zs most w h e
    · have hn : zs.length = n := by have := h.2.2.2.2.2.2.2.2.2.2.1; omega
      exact push_wide b g n c (some ⟨g, 0, none⟩) x zs most w h.1.c0 (by rw [← hn]; exact h.1.c2) h.1.c3 hn (by omega) hm (Lib.hid fun m => widen_some b g n c f most cur zs (w.drewN m) h hn (by omega))
end R0
end Go.Proofs.Ytamcakckbabeiaa
