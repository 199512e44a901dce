/- The chapter's example of layer 28: five in a row. -/
import Derived.Test.YtcgpjnddklhemaaRtyB
namespace Go.Proofs.Ytcgpjnddklhemaa
open Go.ChangeShapes Go.WideShapes Go.ChangeAt Go.RowKit
set_option linter.unusedVariables false

abbrev ryL : List Value := ([5, 5, 5, 7, 9] : List Int).map (Value.int .i64)
abbrev ryX : List Value := ([0, 0, 2, 3, 4] : List Int).map (Value.int .i64)
/-- The state, what is told and what is asked for. -/
structure RyW (w : World) (g gl gx : Nat) (c : Ry) (wr : World) : Prop where
  cur : Blk wr g (ryV c) 23
  row : Blk wr gl ryL 2
  ask : Blk wr gx ryX 3
  low : Below w.heap.size w wr
theorem RyW.kept {w wr w1 : World} {g gl gx : Nat} {c : Ry} (h : RyW w g gl gx c wr) (B : Below wr.heap.size wr w1) : RyW w g gl gx c w1 :=
  ⟨h.cur.kept B, h.row.kept B, h.ask.kept B, new_then h.low B⟩
theorem RyW.drew {w wr : World} {g gl gx : Nat} {c : Ry} (h : RyW w g gl gx c wr) : RyW w g gl gx c wr.drew := ⟨h.cur.drew, h.row.drew, h.ask.drew, new_drew h.low⟩
theorem RyW.set {w wr : World} {g gl gx : Nat} {c : Ry} (h : RyW w g gl gx c wr) (hg : w.heap.size ≤ g) (h1 : gl ≠ g) (h2 : gx ≠ g) (d : Ry) :
    RyW w g gl gx d ((((wr.setCell ⟨g, 0, none⟩ (.int .i64 d.a)).setCell ⟨g, 1, none⟩ (.int .i64 d.d)).setCell ⟨g, 2, none⟩ (.int .i64 d.p)).setCell ⟨g, 3, none⟩ (.bool d.i)) :=
  ⟨ry_set h.cur d, farY4 h.row h1 _ _ _ _, farY4 h.ask h2 _ _ _ _, lowY4 h.low hg _ _ _ _⟩
/-- Behind so many of the five. -/
def RyI (w : World) (g gl gx gh : Nat) (vi : Value) (wr : World) : Prop := ∃ k : Nat, vi = .int .i64 (k : Int) ∧ 5 - k = gh ∧ k ≤ 5 ∧ RyW w g gl gx (ryEx k) wr

set_option maxHeartbeats 2000000 in
theorem works28_any (w : World) : Calls Try.prog 8 #[] w fun e w' => e = .returned (.bool true) ∧ Below w.heap.size w w' := by
  go_enter Try.func8, Try.ntmps8
  go_upto_region 4 with fail
  have TK : Hid (∀ (c : Ry) (u : Int) (D : Ry) (x : Int), RyIs c u 9 D x → ∀ w, Calls Try.prog 5 #[.agg #[.int .i64 c.a, .int .i64 c.d, .int .i64 c.p, .bool c.i], .int .i64 u, .int .i64 9] w fun e w' => e = .returned (.tuple #[.agg #[.int .i64 D.a, .int .i64 D.d, .int .i64 D.p, .bool D.i], .int .i64 x]) ∧ Below w.heap.size w w') := Lib.hid (fun c u D x h w => take28_any c.a c.d c.p c.i u 9 D x w h)
  have A : RyW w w.heap.size (w.heap.size + 1) (w.heap.size + 1 + 1) (ryEx 0) (((w.alloc (.cells #[.int .i64 5, .int .i64 0, .int .i64 0, .bool false] 23)).alloc (.cells #[.int .i64 5, .int .i64 5, .int .i64 5, .int .i64 7, .int .i64 9] 2)).alloc (.cells #[.int .i64 0, .int .i64 0, .int .i64 2, .int .i64 3, .int .i64 4] 3)) :=
    ⟨((Blk.new w (ryV (ryEx 0)) _).alloc _).alloc _, (Blk.newAt (alloc_size w _) ryL _).alloc _, Blk.newAt (by simp) ryX _, new_alloc (new_alloc (new_alloc (new_refl w) _) _) _⟩
  generalize ((w.alloc (.cells #[.int .i64 5, .int .i64 0, .int .i64 0, .bool false] 23)).alloc (.cells #[.int .i64 5, .int .i64 5, .int .i64 5, .int .i64 7, .int .i64 9] 2)).alloc (.cells #[.int .i64 0, .int .i64 0, .int .i64 2, .int .i64 3, .int .i64 4] 3) = W at *
  replace A := Lib.hid A
  obtain ⟨g, hg⟩ : ∃ g, w.heap.size = g := ⟨_, rfl⟩
  obtain ⟨gl, hgl⟩ : ∃ gl, w.heap.size + 1 = gl := ⟨_, rfl⟩
  obtain ⟨gx, hgx⟩ : ∃ gx, w.heap.size + 1 + 1 = gx := ⟨_, rfl⟩
  have G0 : Hid (w.heap.size ≤ g ∧ gl ≠ g ∧ gx ≠ g) := Lib.hid ⟨by omega, by omega, by omega⟩
  rw [hgx, hgl, hg] at A ⊢
  clear hg hgl hgx
  go_upto_block 0 with fail
  go_cut [] (fun wx => RyW w g gl gx ⟨9, 0, 9, false⟩ wx)
  case first =>
    go_wp2_with fail
    go_loopg [11] 5 (fun gh vi wr => RyI w g gl gx gh vi wr)
    case atStart => exact ⟨0, rfl, rfl, by omega, A.out⟩
    case round =>
      clear A
      obtain ⟨k, rfl, hgh, hk, hA⟩ := hrel
      have A := Lib.hid hA
      clear hA
      by_cases hlt : k < 5
      · have i0 : (0 : Int) ≤ (k : Int) := by omega
        have i1 : (k : Int) < (5 : Int) := by omega
        obtain ⟨u, x, hu, hx, hs⟩ := ry_ex hlt
        have TK2 := Lib.hid (TK.out _ u _ x hs)
        have e0 : wr.cell? ⟨gl, k, none⟩ = some (.int .i64 u) := A.out.row.cell k (by simp only [ryL, List.getElem?_map, hu]; rfl)
        have E1 : Hid (ryX[k]? = some (.int .i64 x)) := Lib.hid (by simp only [ryX, List.getElem?_map, hx]; rfl)
        have HS := Lib.hid hs
        clear hs TK hu hx
        obtain ⟨c, hc⟩ : ∃ c, ryEx k = c := ⟨_, rfl⟩
        obtain ⟨D, hD⟩ : ∃ D, ryEx (k + 1) = D := ⟨_, rfl⟩
        have HD := Lib.hid hD
        rw [hc] at A TK2
        rw [hD] at TK2
        clear hc hD HS
        have c0 := A.out.cur.cell 0 rfl; have c1 := A.out.cur.cell 1 rfl; have c2 := A.out.cur.cell 2 rfl; have c3 := A.out.cur.cell 3 rfl
        go_upto_region 8 with fail
        go_cut [5] (fun v5 wx => v5 = .int .i64 x ∧ RyW w g gl gx D wx)
        case first =>
          have i2 : (k : Int).toNat = k := by omega
          go_region_with (first
            | (go_at_call 5; refine (TK2.out _).mono ?_; rintro e w1 ⟨rfl, B1⟩
               replace B1 := new_undrew B1
               have K1 := Lib.hid (A.out.kept B1)
               have Z := Lib.hid (K1.out.set G0.out.1 G0.out.2.1 G0.out.2.2 D)
               have r0 := K1.out.cur.cell 0 rfl; have r1 := K1.out.cur.cell 1 rfl; have r2 := K1.out.cur.cell 2 rfl; have r3 := K1.out.cur.cell 3 rfl; have q0 := K1.out.cur.frozen 0; have q1 := K1.out.cur.frozen 1; have q2 := K1.out.cur.frozen 2; have q3 := K1.out.cur.frozen 3))
          all_goals
            go_wp2_with fail
            go_meet
            exact ⟨rfl, Z.out⟩
        case rest =>
          obtain ⟨rfl, hA⟩ := hcut
          have Z := Lib.hid hA
          clear hA A c0 c1 c2 c3 e0 TK2
          have e1 : wc.cell? ⟨gx, k, none⟩ = some (.int .i64 x) := Z.out.ask.cell k E1.out
          have hx : (x != x) = false := by simp
          have i2 : (k : Int).toNat = k := by omega
          go_wp2_with fail
          go_roundg (5 - (k + 1))
          case measure => omega
          case rel => exact ⟨k + 1, by go_num, rfl, by omega, by rw [HD.out]; exact Z.out⟩
      · have i1 : ¬ (k : Int) < (5 : Int) := by omega
        obtain rfl : k = 5 := by omega
        go_wp2_with fail
        go_meet
        exact A.out
  case rest =>
    have Z := Lib.hid hcut
    clear hcut A TK
    have c0 := Z.out.cur.cell 0 rfl
    have c3 := Z.out.cur.cell 3 rfl
    go_wp2_with fail
    go_ret
    exact ⟨rfl, Z.out.low⟩
end Go.Proofs.Ytcgpjnddklhemaa
