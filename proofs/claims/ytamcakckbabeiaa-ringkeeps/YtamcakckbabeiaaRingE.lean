/- Package ring at int64: what is told of a row, Pop, Drop. -/
import Derived.Test.YtamcakckbabeiaaRingD
namespace Go.Proofs.Ytamcakckbabeiaa
namespace R8
open Go.RowKit
set_option linter.unusedVariables false

/-- New: an empty row. -/
theorem new_ring (most : Int) (w : World) :
    Calls Try.prog 6 #[.int .i64 most] w fun e w' => e = .returned (.pointer (some ⟨w.heap.size, 0, none⟩)) ∧ IsRing w' w.heap.size w.heap.size [] (mst most) ∧ Below w.heap.size w w' :=
  (new_any most w).mono fun e w' ⟨he, hw⟩ => ⟨he, .inl ⟨⟨by rw [hw]; exact Blk.new w [.slice none 0 0, .int .i64 0, .int .i64 0, .int .i64 ((mst most : Nat) : Int)] _, mst_le most⟩, rfl, by rw [hw]; simp⟩, by rw [hw]; exact new_alloc (new_refl w) _⟩
theorem len_ring (b g : Nat) (zs : List Int) (most : Nat) (w : World) (h : IsRing w b g zs most) :
    Calls Try.prog 14 #[.pointer (some ⟨b, 0, none⟩)] w fun e w' => e = .returned (.int .i64 (zs.length : Int)) ∧ w = w' := len_any b _ w h.c2
/-- What At tells. -/
def tell (zs : List Int) (i : Int) : Value := if 0 ≤ i ∧ i < (zs.length : Int) then .tuple #[.int .i64 (zs[i.toNat]?.getD 0), .bool true] else .tuple #[.int .i64 0, .bool false]
theorem tell_in {zs : List Int} {i : Nat} (h : i < zs.length) : tell zs (i : Int) = .tuple #[.int .i64 (zs[i]?.getD 0), .bool true] := by
  unfold tell; rw [if_pos (by omega)]; simp
theorem tell_out {zs : List Int} {i : Int} (h : i < 0 ∨ (zs.length : Int) ≤ i) : tell zs i = .tuple #[.int .i64 0, .bool false] := by
  unfold tell; rw [if_neg (by omega)]
theorem at_ring (b g : Nat) (zs : List Int) (most : Nat) (i : Int) (w : World) (h : IsRing w b g zs most) :
    Calls Try.prog 23 #[.pointer (some ⟨b, 0, none⟩), .int .i64 i] w (Reads w (tell zs i)) := by
  by_cases hi : 0 ≤ i ∧ i < (zs.length : Int)
  · rcases h with ⟨_, rfl, hgl⟩ | ⟨n, c, f, cur, h⟩
    · simp at hi; omega
    · obtain ⟨k, rfl⟩ : ∃ k : Nat, i = (k : Int) := ⟨i.toNat, by omega⟩
      have hk : k < zs.length := by omega
      have hx := h.item hk
      obtain ⟨hB, hG, hc, hgb, h1, hnc, hcm, hnm, hmm, hf, hzn, ht⟩ := h
      rw [tell_in hk]
      exact at_in b g n c f zs.length k _ _ w hB.c0 hB.c1 hB.c2 hk h1 (by omega) (by omega) (by omega) (Lib.hid rfl) hx
  · rw [tell_out (by omega)]
    exact at_out b zs.length i w h.c2 (by omega)
theorem front_ring (b g : Nat) (zs : List Int) (most : Nat) (w : World) (h : IsRing w b g zs most) :
    Calls Try.prog 20 #[.pointer (some ⟨b, 0, none⟩)] w (Reads w (tell zs 0)) := by
  by_cases hi : 0 < zs.length
  · rcases h with ⟨_, rfl, hgl⟩ | ⟨n, c, f, cur, h⟩
    · simp at hi
    · have hx := h.item hi
      obtain ⟨hB, hG, hc, hgb, h1, hnc, hcm, hnm, hmm, hf, hzn, ht⟩ := h
      have e := tell_in hi
      rw [Int.natCast_zero] at e
      rw [e]
      exact front_in b g n c f zs.length _ _ w hB.c0 hB.c1 hB.c2 hi h1 (by omega) (by omega) (by omega) (Lib.hid rfl) hx
  · rw [tell_out (by omega)]
    have h2 := h.c2
    rw [show zs.length = 0 by omega] at h2
    exact front_out b w h2
theorem slice_ring (b g : Nat) (zs : List Int) (most : Nat) (w : World) (h : IsRing w b g zs most) :
    Calls Try.prog 16 #[.pointer (some ⟨b, 0, none⟩)] w (GivesRow w zs) := by
  by_cases hi : 0 < zs.length
  · rcases h with ⟨_, rfl, hgl⟩ | ⟨n, c, f, cur, h⟩
    · simp at hi
    · have H := h
      obtain ⟨hB, hG, hc, hgb, h1, hnc, hcm, hnm, hmm, hf, hzn, ht⟩ := h
      exact slice_some b g n c f zs.length zs w hB.c0 hB.c1 hB.c2 h1 (by omega) (by omega) (by omega) hi rfl (fun i hi => H.item hi)
  · obtain rfl : zs = [] := List.eq_nil_of_length_eq_zero (by omega)
    exact slice_none b w h.c2

theorem slice_ringL (b g : Nat) (zs : List Int) (most L : Nat) (w : World) (h : IsRing w b g zs most) (hL : zs.length = L) :
    Calls Try.prog 16 #[.pointer (some ⟨b, 0, none⟩)] w fun e w' => ∃ g c, e = .returned (.slice (some ⟨g, 0, none⟩) L c) ∧ Own w' w.heap.size (.slice (some ⟨g, 0, none⟩) L c) zs ∧ Below w.heap.size w w' := by
  subst hL; exact slice_ring b g zs most w h
theorem len_ringL (b g : Nat) (zs : List Int) (most L : Nat) (w : World) (h : IsRing w b g zs most) (hL : zs.length = L) :
    Calls Try.prog 14 #[.pointer (some ⟨b, 0, none⟩)] w fun e w' => e = .returned (.int .i64 (L : Int)) ∧ w = w' := by
  subst hL; exact len_ring b g zs most w h

/-- Pop of none. -/
theorem pop_none (b g : Nat) (most : Nat) (w : World) (h : IsRing w b g [] most) :
    Calls Try.prog 8 #[.pointer (some ⟨b, 0, none⟩)] w (Reads w (.tuple #[.int .i64 0, .bool false])) := by
  have H := Lib.hid (front_ring b g [] most w h)
  clear h
  have e : tell [] 0 = .tuple #[.int .i64 0, .bool false] := rfl
  go_enter Try.func8, Try.ntmps8
  go_wp2_with (go_at_call 20; refine H.out.mono ?_; rw [e]; rintro e w' ⟨rfl, m, rfl⟩)
  go_ret2
  exact ⟨rfl, m, rfl⟩
theorem pop_nil (w : World) :
    Calls Try.prog 8 #[.pointer none] w (Reads w (.tuple #[.int .i64 0, .bool false])) := by
  go_enter Try.func8, Try.ntmps8
  go_wp2_with (go_at_call 20; refine (front_nil _).mono ?_; rintro e w' ⟨rfl, m, rfl⟩)
  go_ret2
  exact ⟨rfl, m, rfl⟩

theorem turned_pop {n f : Nat} {cur zs : List Int} {z y : Int} (hf : f < n) (hz : (z :: zs).length ≤ n) (ht : Turned n f cur (z :: zs)) : Turned n ((f + 1) % n) (cur.set f y) zs := by
  intro i hi
  rw [List.length_cons] at hz
  have h1 := ht (i + 1) (by simp; omega)
  have hne : f ≠ (f + (i + 1)) % n := by
    have := round_ne (i := 0) (j := i + 1) hf (by omega) (by omega) (by omega)
    rwa [Nat.add_zero, Nat.mod_eq_of_lt hf] at this
  rw [round_one hf (by omega), List.getElem?_set_ne hne, h1]
  simp
theorem popped {w : World} {b g n c f p most m m2 : Nat} {cur zs : List Int} {z : Int} (h : RF w b g n c f cur (z :: zs) most) (hp : (f + 1) % n = p) :
    RF (((((w.drewN m).setCell ⟨g, f, none⟩ (.int .i64 0)).drewN m2).setCell ⟨b, 1, none⟩ (.int .i64 (p : Int))).setCell ⟨b, 2, none⟩ (.int .i64 (zs.length : Int))) b g n c p (cur.set f 0) zs most := by
  obtain ⟨hB, hG, hc, hgb, h1, hnc, hcm, hnm, hmm, hf, hzn, ht⟩ := h
  subst hp
  refine ⟨?_, ?_, by simpa using hc, hgb, h1, hnc, hcm, hnm, hmm, Nat.mod_lt _ (by omega), by simp at hzn; omega, turned_pop hf hzn ht⟩
  · exact ((Blk.draw (Blk.far (w := w.drewN m) hB (p := ⟨g, f, none⟩) (fun e => hgb e.symm) (.int .i64 0)) m2).set 1 (.int .i64 (((f + 1) % n : Nat) : Int))).set 2 (.int .i64 (zs.length : Int))
  · exact ((Rw.draw (Rw.set (hG.draw m) (by omega) 0) m2).far (p := ⟨b, 1, none⟩) hgb _).far (p := ⟨b, 2, none⟩) hgb _
theorem popped_out {w : World} {b g f m m2 : Nat} {u v x : Value} : Out (foot b g) w (((((w.drewN m).setCell ⟨g, f, none⟩ u).drewN m2).setCell ⟨b, 1, none⟩ v).setCell ⟨b, 2, none⟩ x) :=
  Out.set (p := ⟨b, 2, none⟩) (Out.set (p := ⟨b, 1, none⟩) (Out.draw (Out.set (p := ⟨g, f, none⟩) (Out.draw (Out.refl (foot b g) w) m) (.inl (.inr rfl)) u) m2) (.inl (.inl rfl)) v) (.inl (.inl rfl)) x

set_option maxRecDepth 100000 in
set_option maxHeartbeats 1000000 in
theorem pop_some (b g : Nat) (z : Int) (zs : List Int) (most : Nat) (w : World) (h : IsRing w b g (z :: zs) most) :
    Calls Try.prog 8 #[.pointer (some ⟨b, 0, none⟩)] w (Turns w b g (.tuple #[.int .i64 z, .bool true]) zs most) := by
  have HF := Lib.hid (front_ring b g (z :: zs) most w h)
  have e : tell (z :: zs) 0 = .tuple #[.int .i64 z, .bool true] := by unfold tell; simp
  rcases h with ⟨_, h, _⟩ | ⟨n, c, f, cur, h⟩
  · cases h
  have H := h
  obtain ⟨hB, hG, hc, hgb, h1, hnc, hcm, hnm, hmm, hf, hzn, ht⟩ := h
  have c0 := hB.c0
  have c1 := hB.c1
  have c2 := hB.c2
  have f1 : w.frozen? ⟨b, 1, none⟩ = false := hB.frozen 1
  have f2 : w.frozen? ⟨b, 2, none⟩ = false := hB.frozen 2
  obtain ⟨y, hx⟩ : ∃ y, w.cell? ⟨g, f, none⟩ = some (.int .i64 y) := by
    have hx := H.slot (i := 0) (by omega)
    rw [Nat.add_zero, Nat.mod_eq_of_lt hf] at hx
    exact ⟨_, hx⟩
  have fx : w.frozen? ⟨g, f, none⟩ = false := hG.frozen f
  rw [List.length_cons] at c2 hzn
  obtain ⟨k, hk⟩ : ∃ k, zs.length = k := ⟨_, rfl⟩
  rw [hk] at c2 hzn
  rw [show (((k + 1 : Nat)) : Int) = (k : Int) + 1 by omega] at c2
  have K := Lib.hid hk
  clear hk hB hG ht hc
  obtain ⟨p, hp⟩ : ∃ p, (f + 1) % n = p := ⟨_, rfl⟩
  have P := Lib.hid hp
  have hpn : p < n := by have := Nat.mod_lt (f + 1) (show 0 < n by omega); omega
  clear hp
  have k0 : (0 : Int) ≤ (f : Int) := by omega
  have k1 : (f : Int) < (n : Int) := by omega
  have k2 : f ≤ 65536 := by omega
  have k3 : (k : Int) ≤ 65536 := by omega
  have k4 : (0 : Int) ≤ (k : Int) := by omega
  have hbg : ¬ b = g := fun e => hgb e.symm
  go_enter Try.func8, Try.ntmps8
  go_wp2_with (go_at_call 20; refine HF.out.mono ?_; rw [e]; rintro e1 w' ⟨rfl, m, rfl⟩)
  go_region_held3 (fun w' => w'.cell? ⟨b, 0, none⟩ = some (.slice (some ⟨g, 0, none⟩) n c) ∧ w'.cell? ⟨b, 1, none⟩ = some (.int .i64 (f : Int)) ∧ w'.cell? ⟨b, 2, none⟩ = some (.int .i64 ((k : Int) + 1)))
    (go_keep) (fail)
  rename_i hH
  obtain ⟨x0, x1, x2⟩ := hH
  go_wp2_with (go_at_call 21; refine (place_one b n c f p (some ⟨g, 0, none⟩) _ x0 x1 h1 k2 P).mono ?_; rintro e w' ⟨rfl, m2, rfl⟩)
  go_ret2
  obtain rfl := K.out
  exact ⟨g, rfl, .inr ⟨n, c, p, _, popped H P.out⟩, .inl rfl, popped_out⟩

/-- A row that was changed by several calls. -/
def Went (w : World) (b g : Nat) (zs : List Int) (most : Nat) (w' : World) : Prop := ∃ g', IsRing w' b g' zs most ∧ (g' = g ∨ w.heap.size ≤ g') ∧ Out (foot b g) w w'
theorem Went.refl {w : World} {b g most : Nat} {zs : List Int} (h : IsRing w b g zs most) : Went w b g zs most w := ⟨g, h, .inl rfl, Out.refl _ _⟩
theorem foot_then {w w1 w2 : World} {b g g1 : Nat} (h1 : g1 = g ∨ w.heap.size ≤ g1) (o1 : Out (foot b g) w w1) (o2 : Out (foot b g1) w1 w2) : Out (foot b g) w w2 :=
  o1.trans o2 fun i hi hf => by
    rcases hf with rfl | rfl
    · exact .inl rfl
    · rcases h1 with rfl | h1
      · exact .inr rfl
      · exact absurd hi (Nat.not_lt.2 h1)
theorem slot_then {w w1 : World} {b g g1 g2 : Nat} (h1 : g1 = g ∨ w.heap.size ≤ g1) (o1 : Out (foot b g) w w1) (h2 : g2 = g1 ∨ w1.heap.size ≤ g2) : g2 = g ∨ w.heap.size ≤ g2 := by
  have := o1.size
  rcases h2 with rfl | h2
  · exact h1
  · exact .inr (by omega)

theorem foot_below {B : Nat} {w w' : World} {b g : Nat} (o : Out (foot b g) w w') (hB : B ≤ w.heap.size) (hb : B ≤ b) (hg : B ≤ g) : Below B w w' := o.below hB (fun k hk => by rcases hk with rfl | rfl <;> assumption)
theorem slot_low {B s g g' : Nat} (h : g' = g ∨ s ≤ g') (hg : B ≤ g) (hs : B ≤ s) : B ≤ g' := by omega

theorem drop_next {zs ys : List Int} {z : Int} {j : Nat} (h : zs.drop j = z :: ys) : zs.drop (j + 1) = ys := by
  rw [← List.tail_drop, h]; rfl

def DropInv (w : World) (b g : Nat) (zs : List Int) (most k gh : Nat) (vi : Value) (wr : World) : Prop :=
  ∃ j : Nat, j ≤ k ∧ gh = k - j ∧ vi = .int .i64 (j : Int) ∧ Went w b g (zs.drop j) most wr

theorem drop_to (b g : Nat) (n : Int) (zs : List Int) (most k : Nat) (w : World) (h : IsRing w b g zs most) (hk : (n < 0 ∧ k = 0) ∨ (n = (k : Int) ∧ k ≤ zs.length) ∨ ((zs.length : Int) < n ∧ k = zs.length)) :
    Calls Try.prog 15 #[.pointer (some ⟨b, 0, none⟩), .int .i64 n] w (Turns w b g (.int .i64 (k : Int)) (zs.drop k) most) := by
  have hkz : k ≤ zs.length := by omega
  have hm := h.le
  have c2 := h.c2
  obtain ⟨L, hL⟩ : ∃ L, zs.length = L := ⟨_, rfl⟩
  rw [hL] at c2 hk hkz hm
  have HL := Lib.hid hL
  clear hL
  have l0 : (0 : Int) ≤ (L : Int) := by omega
  have l1 : (k : Int) ≤ (L : Int) := by omega
  have l2 : (k : Int) ≤ 65536 := by omega
  go_enter Try.func15, Try.ntmps15
  go_upto_region 1 with (fail)
  go_cut [5] (fun v wx => v = .int .i64 (k : Int) ∧ w = wx)
  case first =>
    rcases hk with ⟨h1, rfl⟩ | ⟨rfl, h1⟩ | ⟨h1, rfl⟩
    all_goals
      go_wp2_with (go_at_call 14; refine (len_any b _ _ c2).mono ?_; rintro e w' ⟨rfl, rfl⟩)
      all_goals
        go_meet
        case rel => exact ⟨by first | rfl | (congr 1; omega), rfl⟩
  case rest =>
    obtain ⟨rfl, rfl⟩ := hcut
    clear hk
    go_wp2_with fail
    go_loopg [12] k (fun gh vi wr => DropInv w b g zs most k gh vi wr)
    case atStart => exact ⟨0, by omega, rfl, rfl, Went.refl h⟩
    case round =>
      obtain ⟨j, hj, rfl, rfl, g1, R1, hg1, o1⟩ := hrel
      by_cases hlt : j < k
      · obtain ⟨z, ys, hzs⟩ : ∃ z ys, zs.drop j = z :: ys := by
          cases hd : zs.drop j with
          | nil => have := HL.out; rw [List.drop_eq_nil_iff] at hd; omega
          | cons z ys => exact ⟨z, ys, rfl⟩
        rw [hzs] at R1
        have HP := Lib.hid (pop_some b g1 z ys most wr R1)
        have HY : Hid (zs.drop (j + 1) = ys) := Lib.hid (drop_next hzs)
        clear hzs c2
        go_wp2_with (go_at_call 8; refine HP.out.mono ?_; rintro e w1 ⟨g2, rfl, R2, hg2, o2⟩)
        go_roundg (k - (j + 1))
        case measure => omega
        case rel => exact ⟨j + 1, by omega, rfl, by go_num, g2, by rw [HY.out]; exact R2, slot_then hg1 o1 hg2, foot_then hg1 o1 o2⟩
      · obtain rfl : j = k := by omega
        go_wp2_with fail
        go_ret
        exact ⟨g1, rfl, R1, hg1, o1⟩
/-- How many are dropped. -/
def kdrop (n : Int) (L : Nat) : Nat := (min (max n 0) (L : Int)).toNat
theorem drop_ring (b g : Nat) (n : Int) (zs : List Int) (most : Nat) (w : World) (h : IsRing w b g zs most) :
    Calls Try.prog 15 #[.pointer (some ⟨b, 0, none⟩), .int .i64 n] w (Turns w b g (.int .i64 (kdrop n zs.length : Int)) (zs.drop (kdrop n zs.length)) most) :=
  drop_to b g n zs most _ w h (by unfold kdrop; omega)
end R8
end Go.Proofs.Ytamcakckbabeiaa
