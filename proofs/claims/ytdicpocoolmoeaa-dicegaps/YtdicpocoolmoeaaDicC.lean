/- Package dice: Spread, Gaps, Count; the document's Spread. -/
import Derived.Test.YtdicpocoolmoeaaDicB
import Derived.Test.YtdicpocoolmoeaaDicM
namespace Go.Proofs.Ytdicpocoolmoeaa
open Go.RowKit
set_option linter.unusedVariables false

section
variable {k : IntKind} {t e : TypeId} {bytes : Nat}
theorem ownMade {w : World} (n : Nat) (h : n ≤ 1000000) : OwnK k e (w.alloc (.cells (madeCells #[.int k 0] n) e)) w.heap.size (.slice (some ⟨w.heap.size, 0, none⟩) n n) (List.replicate n 0) := by
  have h1 := World.ownsRow_lit (base := w.heap.size) (size := 1) (e := e) w (madeCells #[.int k 0] n) n (Nat.le_refl _) (by unfold maxLen; omega) (by rw [size_madeCells]; omega)
  rw [toList_madeCells_one] at h1
  unfold OwnK
  rw [List.length_replicate, List.map_replicate]
  exact h1
theorem ownOne (w : World) (z : Int) : OwnK k e (w.alloc (.cells #[.int k z] e)) w.heap.size (.slice (some ⟨w.heap.size, 0, none⟩) 1 1) [z] :=
  World.ownsRow_lit (base := w.heap.size) (size := 1) (e := e) w #[.int k z] 1 (Nat.le_refl _) (by unfold maxLen; omega) rfl
theorem ownSet {w : World} {base g n c : Nat} {zs : List Int} (h : OwnK k e w base (.slice (some ⟨g, 0, none⟩) n c) zs) (j : Nat) (z : Int) :
    OwnK k e (w.setCell ⟨g, j, none⟩ (.int k z)) base (.slice (some ⟨g, 0, none⟩) n c) (zs.set j z) := by
  have e1 := h.blk.1
  have h' : w.ownsRow base e 1 (.slice (some ⟨g, 0, none⟩) n c) n (zs.map (Value.int k)) := by rw [e1]; unfold OwnK at h; rw [e1] at h; exact h
  have := (World.ownsRow.stored h' j (.int k z)).1
  unfold OwnK
  rw [List.length_set, List.map_set, ← e1]
  exact this
theorem ownFroz {w : World} {base g n c : Nat} {zs : List Int} (h : OwnK k e w base (.slice (some ⟨g, 0, none⟩) n c) zs) (j : Nat) : w.frozen? ⟨g, j, none⟩ = false := by
  obtain ⟨_, _, _, _, cur, _, hB, _⟩ := h.blk
  exact hB.frozen j
theorem ownLow {w : World} {base g n c : Nat} {zs : List Int} (h : OwnK k e w base (.slice (some ⟨g, 0, none⟩) n c) zs) : base ≤ g ∧ g < w.heap.size := by
  obtain ⟨_, _, _, hb, cur, _, hB, _⟩ := h.blk
  exact ⟨hb, hB.lt⟩
end

/-- A list of n draws of its own. -/
def ListUn (w : World) (n : Nat) (zs : List Int) (e : Ending) (w' : World) : Prop := ∃ g c, e = .returned (.slice (some ⟨g, 0, none⟩) n c) ∧ OwnU w' w.heap.size (.slice (some ⟨g, 0, none⟩) n c) zs ∧ Below w.heap.size w w'
def SprInv (w : World) (s : Int) (n g : Nat) (gh : Nat) (vx vi : Value) (wr : World) : Prop :=
  ∃ k : Nat, vi = .int .i64 (k : Int) ∧ n - k = gh ∧ k ≤ n ∧ vx = .int .u32 (itr s k) ∧ OwnU wr w.heap.size (.slice (some ⟨g, 0, none⟩) n n) (spr s k ++ List.replicate (n - k) 0) ∧ Below w.heap.size w wr
def MnyB (m : Int) (n : Nat) : Prop := (m < 0 ∧ n = 0) ∨ (m = (n : Int) ∧ n ≤ 65536) ∨ (65536 < m ∧ n = 65536)

theorem nxt_mod (x : Int) : (x * 1664525 % 4294967296 + 1013904223) % 4294967296 = nxt x := by
  unfold nxt; omega
set_option maxHeartbeats 1000000 in
theorem spread_at (s m : Int) (n : Nat) (w : World) (hm : MnyB m n) (hs : isU32 s) :
    Calls Try.prog 14 #[.int .u32 s, .int .i64 m] w (ListUn w n (spr s n)) := by
  have HS := Lib.hid hs
  clear hs
  have hn : n ≤ 65536 := by unfold MnyB at hm; omega
  have mk : ∀ w, (Instr.makeSlice 22 (.int .i64 (n : Int)) (.int .i64 (n : Int))).run Try.prog w = .ok (.slice (some ⟨w.heap.size, 0, none⟩) n n) (w.alloc (.cells (madeCells #[.int .u32 0] n) 26)) := fun w => make_k elU n (by omega) w
  have mk0 : n = 0 → ∀ w, (Instr.makeSlice 22 (.int .i64 0) (.int .i64 0)).run Try.prog w = .ok (.slice (some ⟨w.heap.size, 0, none⟩) n n) (w.alloc (.cells (madeCells #[.int .u32 0] n) 26)) := fun e => by subst e; exact mk
  have mk6 : n = 65536 → ∀ w, (Instr.makeSlice 22 (.int .i64 65536) (.int .i64 65536)).run Try.prog w = .ok (.slice (some ⟨w.heap.size, 0, none⟩) n n) (w.alloc (.cells (madeCells #[.int .u32 0] n) 26)) := fun e => by subst e; exact mk
  have n0 : (0 : Int) ≤ (n : Int) := by omega
  have n1 : (n : Int) ≤ 65536 := by omega
  have O0 := Lib.hid (ownMade (k := .u32) (e := 26) (w := w) n (by omega))
  have B0 := Lib.hid (new_alloc (new_refl w) (.cells (madeCells #[.int .u32 0] n) 26))
  have hlast : Hid (spr s n ++ List.replicate (n - n) 0 = spr s n) := Lib.hid (by simp)
  rcases hm with ⟨h, e⟩ | ⟨rfl, _⟩ | ⟨h, e⟩
  · have mkz := mk0 e
    clear mk mk0 mk6 e
    go_enter Try.func14, Try.ntmps14
    go_wp2_with fail
    go_loopg [6, 15] n (fun gh vx vi wr => SprInv w s n w.heap.size gh vx vi wr)
    case atStart => exact ⟨0, rfl, rfl, by omega, rfl, O0.out, B0.out⟩
    case round =>
      obtain ⟨j, rfl, rfl, hj, rfl, hO, hB⟩ := hrel
      by_cases hlt : j < n
      · have j0 : (0 : Int) ≤ (j : Int) := by omega
        have j1 : (j : Int) < (n : Int) := by omega
        have hx := itr_is HS.out j
        unfold isU32 at hx
        obtain ⟨x0, x1⟩ := hx
        have hf := ownFroz hO j
        obtain ⟨hg1, hg2⟩ := ownLow hO
        have hc := OwnK.cell hO (i := j) (by simp [spr_len]; omega)
        have HO := Lib.hid (ownSet hO j (itr s (j + 1)))
        have EX : Hid (itr s (j + 1) = nxt (itr s j)) := Lib.hid rfl
        have en := Lib.hid (nxt_mod (itr s j))
        have SE := Lib.hid (spr_set s n j hlt)
        clear hO
        generalize itr s j = x at *
        go_wp2_with fail
        go_roundg (n - (j + 1))
        case measure => omega
        case rel => exact ⟨j + 1, by go_num, rfl, by omega, by rw [EX.out, en.out], by rw [← SE.out, EX.out]; rw [EX.out] at HO; exact HO.out, new_set hB hg1 _⟩
      · obtain rfl : j = n := by omega
        rw [hlast.out] at hO
        have HO := Lib.hid hO
        clear hO
        go_wp2_with fail
        go_ret
        exact ⟨_, _, rfl, HO.out, hB⟩
  · clear mk0 mk6
    go_enter Try.func14, Try.ntmps14
    go_wp2_with fail
    go_loopg [6, 15] n (fun gh vx vi wr => SprInv w s n w.heap.size gh vx vi wr)
    case atStart => exact ⟨0, rfl, rfl, by omega, rfl, O0.out, B0.out⟩
    case round =>
      obtain ⟨j, rfl, rfl, hj, rfl, hO, hB⟩ := hrel
      by_cases hlt : j < n
      · have j0 : (0 : Int) ≤ (j : Int) := by omega
        have j1 : (j : Int) < (n : Int) := by omega
        have hx := itr_is HS.out j
        unfold isU32 at hx
        obtain ⟨x0, x1⟩ := hx
        have hf := ownFroz hO j
        obtain ⟨hg1, hg2⟩ := ownLow hO
        have hc := OwnK.cell hO (i := j) (by simp [spr_len]; omega)
        have HO := Lib.hid (ownSet hO j (itr s (j + 1)))
        have EX : Hid (itr s (j + 1) = nxt (itr s j)) := Lib.hid rfl
        have en := Lib.hid (nxt_mod (itr s j))
        have SE := Lib.hid (spr_set s n j hlt)
        clear hO
        generalize itr s j = x at *
        go_wp2_with fail
        go_roundg (n - (j + 1))
        case measure => omega
        case rel => exact ⟨j + 1, by go_num, rfl, by omega, by rw [EX.out, en.out], by rw [← SE.out, EX.out]; rw [EX.out] at HO; exact HO.out, new_set hB hg1 _⟩
      · obtain rfl : j = n := by omega
        rw [hlast.out] at hO
        have HO := Lib.hid hO
        clear hO
        go_wp2_with fail
        go_ret
        exact ⟨_, _, rfl, HO.out, hB⟩
  · have mkz := mk6 e
    clear mk mk0 mk6 e
    go_enter Try.func14, Try.ntmps14
    go_wp2_with fail
    go_loopg [6, 15] n (fun gh vx vi wr => SprInv w s n w.heap.size gh vx vi wr)
    case atStart => exact ⟨0, rfl, rfl, by omega, rfl, O0.out, B0.out⟩
    case round =>
      obtain ⟨j, rfl, rfl, hj, rfl, hO, hB⟩ := hrel
      by_cases hlt : j < n
      · have j0 : (0 : Int) ≤ (j : Int) := by omega
        have j1 : (j : Int) < (n : Int) := by omega
        have hx := itr_is HS.out j
        unfold isU32 at hx
        obtain ⟨x0, x1⟩ := hx
        have hf := ownFroz hO j
        obtain ⟨hg1, hg2⟩ := ownLow hO
        have hc := OwnK.cell hO (i := j) (by simp [spr_len]; omega)
        have HO := Lib.hid (ownSet hO j (itr s (j + 1)))
        have EX : Hid (itr s (j + 1) = nxt (itr s j)) := Lib.hid rfl
        have en := Lib.hid (nxt_mod (itr s j))
        have SE := Lib.hid (spr_set s n j hlt)
        clear hO
        generalize itr s j = x at *
        go_wp2_with fail
        go_roundg (n - (j + 1))
        case measure => omega
        case rel => exact ⟨j + 1, by go_num, rfl, by omega, by rw [EX.out, en.out], by rw [← SE.out, EX.out]; rw [EX.out] at HO; exact HO.out, new_set hB hg1 _⟩
      · obtain rfl : j = n := by omega
        rw [hlast.out] at hO
        have HO := Lib.hid hO
        clear hO
        go_wp2_with fail
        go_ret
        exact ⟨_, _, rfl, HO.out, hB⟩

def MnyR (m : Int) (n : Nat) : Prop := (m ≤ 0 ∧ n = 0) ∨ (m = (n : Int) ∧ n ≤ 300)
def RefSprInv (w : World) (s : Int) (n : Nat) (gh : Nat) (vo vx vi : Value) (wr : World) : Prop :=
  ∃ k : Nat, vi = .int .i64 (k : Int) ∧ n - k = gh ∧ k ≤ n ∧ vx = .int .u64 (itr s k) ∧ OwnU wr w.heap.size vo (spr s k) ∧ Below w.heap.size w wr
/-- The document's draws by a seed. -/
theorem refSpread8_any (s m : Int) (n : Nat) (w : World) (hm : MnyR m n) (hs : isU32 s) :
    Calls Try.prog 15 #[.int .u32 s, .int .i64 m] w (ListU w (spr s n)) := by
  have HS := Lib.hid hs
  unfold MnyR at hm
  have hn : n ≤ 300 := by omega
  obtain ⟨s0, s1⟩ := hs
  have hm1 : m ≤ (n : Int) := by omega
  have hm2 : ∀ k : Nat, k < n → (k : Int) < m := by intro k hk; omega
  have HM := Lib.hid hm2
  clear hm hm2
  go_enter Try.func15, Try.ntmps15
  go_wp2_with fail
  go_loopg [5, 6, 7] n (fun gh vo vx vi wr => RefSprInv w s n gh vo vx vi wr)
  case atStart => exact ⟨0, rfl, rfl, by omega, rfl, OwnK.nil _ _ _ _, new_refl w⟩
  case round =>
    obtain ⟨j, rfl, rfl, hj, rfl, hO, hB⟩ := hrel
    by_cases hlt : j < n
    · have j1 : (j : Int) < m := HM.out j hlt
      have j2 : (j : Int) < 65536 := by omega
      have hx := itr_is HS.out j
      unfold isU32 at hx
      obtain ⟨x0, x1⟩ := hx
      have EX : Hid (itr s (j + 1) = nxt (itr s j)) := Lib.hid rfl
      have HN := Lib.hid (spr_len s j)
      have hz : j + 1 ≤ 1000000000 := by omega
      have hs := hB.size
      have SE := Lib.hid (spr_succ s j)
      have HO := Lib.hid hO
      clear hO
      generalize itr s j = x at *
      have y0 : 0 ≤ (x * 1664525 + 1013904223) % 4294967296 := by omega
      have y1 : (x * 1664525 + 1013904223) % 4294967296 ≤ 4294967295 := by omega
      go_wp2_with (first
        | (at_builtin; refine wp_pushK elU (by rfl) _ _ (by rfl) w.heap.size _ (spr s j) (nxt x) _ 1 (by rfl) (by rfl) ((At.new wr [.int .u32 (nxt x)] _).cell 0 rfl) (HO.out.alloc _) (j + 1) (by rw [HN.out]) hz (alloc_le hs _) _ rfl ?_; intro g1 c1 w3 O3 G3 hat3 hlt3))
      go_roundg (n - (j + 1))
      case measure => omega
      case rel => exact ⟨j + 1, by go_num, rfl, by omega, by rw [EX.out]; rfl, by rw [SE.out, EX.out]; exact O3, hB.trans ((Below.alloc (Below.refl _ _) hs _).trans (below_push (HO.out.alloc _) G3 (alloc_le hs _)))⟩
    · obtain rfl : j = n := by omega
      have j1 : ¬ (j : Int) < m := by omega
      have HO := Lib.hid hO
      clear hO
      go_wp2_with fail
      go_ret
      exact ⟨_, rfl, HO.out, hB⟩

theorem elI8 : IsElem .i64 38 3 8 := ⟨by kernel_rfl, by kernel_rfl, by decide⟩
def cs (gs : List Nat) : List Int := gs.map fun (x : Nat) => (x : Int)
theorem cs_len (gs : List Nat) : (cs gs).length = gs.length := by simp [cs]
theorem cs_at (gs : List Nat) (q : Nat) : (cs gs)[q]?.getD 0 = ((gs[q]?.getD 0 : Nat) : Int) := by
  unfold cs
  rw [List.getElem?_map]
  cases gs[q]? <;> simp
theorem cs_snoc (gs : List Nat) : cs (gs ++ [0]) = cs gs ++ [0] := by simp [cs]
theorem cs_bump {gs : List Nat} {q : Nat} (h : gs.length = q + 1) : cs (bump gs) = (cs gs).set q (((gs[q]?.getD 0 : Nat) : Int) + 1) := by
  rw [bump_set gs (by omega), h]
  simp [cs, List.map_set]
theorem take_snoc8 {ds : List Int} {k : Nat} (h : k < ds.length) : ds.take (k + 1) = ds.take k ++ [ds[k]?.getD 0] := by
  rw [List.take_succ_eq_append_getElem h, List.getElem?_eq_getElem h]; rfl
/-- The numbers gs, in a list of its own. -/
def GapsIs (w : World) (s : Int) (ds : List Int) (v : Value) (wr : World) : Prop :=
  ∃ (gs : List Nat) (g q c : Nat), v = .slice (some ⟨g, 0, none⟩) (q + 1) c ∧ gs.length = q + 1 ∧ Gap s gs ds ∧ OwnK .i64 3 wr w.heap.size (.slice (some ⟨g, 0, none⟩) (q + 1) c) (cs gs) ∧ Below w.heap.size w wr
def GapsTo (w : World) (s : Int) (ds : List Int) (e : Ending) (w' : World) : Prop := ∃ v, e = .returned v ∧ GapsIs w s ds v w'
def GapsInv (w : World) (s : Int) (ds : List Int) (L gh : Nat) (vo vi : Value) (wr : World) : Prop :=
  ∃ k : Nat, vi = .int .i64 (k : Int) ∧ L - k = gh ∧ k ≤ L ∧ GapsIs w s (ds.take k) vo wr
set_option maxHeartbeats 1000000 in
theorem gaps_any (g L cl : Nat) (A : Option Addr) (ds : List Int) (s : Int) (w : World) (hl : LsK .u32 w g A ds) (hL : ds.length = L) (hu : ∀ x ∈ ds, isU32 x) (hLm : L ≤ 1000000) :
    Calls Try.prog 16 #[.slice A L cl, .int .i64 s] w (GapsTo w s ds) := by
  have HV := Lib.hid hl
  have HL := Lib.hid hL
  have HU := Lib.hid hu
  clear hl hL hu
  have O0 := Lib.hid (ownOne (k := .i64) (e := 3) w 0)
  have B0 := Lib.hid (new_alloc (new_refl w) (.cells #[.int .i64 0] 3))
  go_enter Try.func16, Try.ntmps16
  go_wp2_with fail
  go_loopg [5, 11] L (fun gh vo vi wr => GapsInv w s ds L gh vo vi wr)
  case atStart => exact ⟨0, rfl, rfl, by omega, [0], _, 0, _, rfl, rfl, by simp [Gap], O0.out, B0.out⟩
  case round =>
    obtain ⟨k, rfl, rfl, hk, gs, g1, q, c1, rfl, hgs, hG, hO, hB⟩ := hrel
    have hcq := gap_cnt hG
    have hcl := cnt_le s (ds.take k)
    have htl : (ds.take k).length ≤ k := List.length_take_le _ _
    have hq : q ≤ k := by omega
    clear hcq hcl htl
    by_cases hlt : k < L
    · have k0 : (0 : Int) ≤ (k : Int) := by omega
      have k1 : (k : Int) < (L : Int) := by omega
      have hk2 : k < ds.length := by rw [HL.out]; exact hlt
      have hxk : isU32 (ds[k]?.getD 0) := HU.out _ (by rw [List.getElem?_eq_getElem hk2]; exact List.getElem_mem _)
      have ET := Lib.hid (take_snoc8 hk2)
      have hs := hB.size
      have hsm := gap_some hG (gs[q]?.getD 0) (by rw [List.getElem?_eq_getElem (by omega)]; exact List.getElem_mem _)
      have hz : gs[q]?.getD 0 ≤ k := Nat.le_trans hsm (List.length_take_le _ _)
      clear hsm
      rcases HV.out.kept hB with h0 | ⟨off, rfl, hc⟩
      · simp [h0] at hk2
      have c0 := hc k hk2
      generalize ds[k]?.getD 0 = x at c0 hxk ET
      clear hc hk2
      have HN := Lib.hid hgs
      have HG := Lib.hid hG
      have HO := Lib.hid hO
      have hcl := hO.cell (i := q) (by rw [cs_len]; omega)
      rw [cs_at] at hcl
      have hfr := ownFroz hO q
      obtain ⟨hg1, hg2⟩ := ownLow hO
      clear hgs hG hO
      cases hb : hitB x s with
      | true =>
        clear hcl hfr
        have HB := Lib.hid hb
        go_wp2_with (first
          | (go_at_call 19; refine (hits_any x s _ hxk).mono ?_; rw [HB.out]; rintro e w2 ⟨rfl, rfl⟩)
          | (at_builtin; refine wp_pushK elI8 (by rfl) _ _ (by rfl) w.heap.size _ (cs gs) 0 _ 1 (by rfl) (by rfl) ((At.new wr [.int .i64 0] _).cell 0 rfl) (HO.out.alloc _) (q + 1 + 1) (by rw [cs_len, HN.out]) (by omega) (alloc_le hs _) _ rfl ?_; intro g3 c3 w3 O3 G3 hat3 hlt3))
        go_roundg (L - (k + 1))
        case measure => omega
        case rel => exact ⟨k + 1, by go_num, rfl, by omega, gs ++ [0], g3, q + 1, c3, rfl, by simp [HN.out], by rw [ET.out]; exact gap_hit HB.out HG.out, by rw [cs_snoc]; exact O3, hB.trans ((Below.alloc (Below.refl _ _) hs _).trans (below_push (HO.out.alloc _) G3 (alloc_le hs _)))⟩
      | false =>
        have HB := Lib.hid hb
        have EB := Lib.hid (cs_bump HN.out)
        have O3 := Lib.hid (ownSet HO.out q (((gs[q]?.getD 0 : Nat) : Int) + 1))
        have BL := Lib.hid (bump_len gs)
        generalize gs[q]?.getD 0 = z at *
        have q0 : (0 : Int) ≤ (q : Int) := by omega
        have z0 : (z : Int) ≤ 1000000 := by omega
        go_wp2_with (first
          | (go_at_call 19; refine (hits_any x s _ hxk).mono ?_; rw [HB.out]; rintro e w2 ⟨rfl, rfl⟩))
        go_roundg (L - (k + 1))
        case measure => omega
        case rel => exact ⟨k + 1, by go_num, rfl, by omega, bump gs, g1, q, c1, rfl, by rw [BL.out, HN.out], by rw [ET.out]; exact gap_miss HB.out HG.out, by rw [EB.out]; exact O3.out, new_set hB hg1 _⟩
    · obtain rfl : k = L := by omega
      have e1 : ds.take k = ds := List.take_of_length_le (by have := HL.out; omega)
      rw [e1] at hG
      have HO := Lib.hid hO
      have HG := Lib.hid hG
      have HN := Lib.hid hgs
      clear hO e1 hG hgs
      go_wp2_with fail
      go_ret
      exact ⟨_, rfl, gs, g1, q, c1, rfl, HN.out, HG.out, HO.out, hB⟩

def CntInv (s : Int) (ds : List Int) (L gh : Nat) (vo vi : Value) : Prop := ∃ k : Nat, vi = .int .i64 (k : Int) ∧ L - k = gh ∧ k ≤ L ∧ vo = .int .i64 ((cnt s (ds.take k) : Nat) : Int)
theorem count_any (g L cl : Nat) (A : Option Addr) (ds : List Int) (s : Int) (w : World) (hl : LsK .u32 w g A ds) (hL : ds.length = L) (hu : ∀ x ∈ ds, isU32 x) (hLm : L ≤ 1000000) :
    Calls Try.prog 17 #[.slice A L cl, .int .i64 s] w fun e w' => e = .returned (.int .i64 ((cnt s ds : Nat) : Int)) ∧ w = w' := by
  have HV := Lib.hid hl
  have HL := Lib.hid hL
  have HU := Lib.hid hu
  clear hl hL hu
  go_enter Try.func17, Try.ntmps17
  go_wp2_with fail
  go_loopg [5, 10] L (fun gh vo vi wr => CntInv s ds L gh vo vi ∧ w = wr)
  case atStart => exact ⟨⟨0, rfl, rfl, by omega, rfl⟩, rfl⟩
  case round =>
    obtain ⟨⟨k, rfl, rfl, hk, rfl⟩, rfl⟩ := hrel
    have hcl := cnt_le s (ds.take k)
    have htl : (ds.take k).length ≤ k := List.length_take_le _ _
    have hq : cnt s (ds.take k) ≤ k := by omega
    clear hcl htl
    by_cases hlt : k < L
    · have k0 : (0 : Int) ≤ (k : Int) := by omega
      have k1 : (k : Int) < (L : Int) := by omega
      have hk2 : k < ds.length := by rw [HL.out]; exact hlt
      have hxk : isU32 (ds[k]?.getD 0) := HU.out _ (by rw [List.getElem?_eq_getElem hk2]; exact List.getElem_mem _)
      have ET := take_snoc8 hk2
      rcases HV.out with h0 | ⟨off, rfl, hc⟩
      · simp [h0] at hk2
      have c0 := hc k hk2
      generalize ds[k]?.getD 0 = x at c0 hxk ET
      have EC : Hid (cnt s (ds.take (k + 1)) = cnt s (ds.take k) + if hitB x s then 1 else 0) := Lib.hid (by rw [ET, cnt_snoc])
      clear hc hk2 ET
      generalize cnt s (ds.take k) = z at *
      have z0 : (z : Int) ≤ 1000000 := by omega
      cases hb : hitB x s with
      | true =>
        have HB := Lib.hid hb
        go_wp2_with (first
          | (go_at_call 19; refine (hits_any x s _ hxk).mono ?_; rw [HB.out]; rintro e w2 ⟨rfl, rfl⟩))
        go_roundg (L - (k + 1))
        case measure => omega
        case rel => exact ⟨⟨k + 1, by go_num, rfl, by omega, by rw [EC.out, HB.out]; simp⟩, rfl⟩
      | false =>
        have HB := Lib.hid hb
        go_wp2_with (first
          | (go_at_call 19; refine (hits_any x s _ hxk).mono ?_; rw [HB.out]; rintro e w2 ⟨rfl, rfl⟩))
        go_roundg (L - (k + 1))
        case measure => omega
        case rel => exact ⟨⟨k + 1, by go_num, rfl, by omega, by rw [EC.out, HB.out]; simp⟩, rfl⟩
    · obtain rfl : k = L := by omega
      have e1 : Hid (ds.take k = ds) := Lib.hid (List.take_of_length_le (by have := HL.out; omega))
      go_wp2_with fail
      go_ret
      exact ⟨ret_int (by rw [e1.out]), rfl⟩
end Go.Proofs.Ytdicpocoolmoeaa
