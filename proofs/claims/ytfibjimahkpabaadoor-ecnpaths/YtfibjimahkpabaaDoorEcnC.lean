/- Package ecn: Path; the document's Path. -/
import Derived.Test.YtfibjimahkpabaaDoorEcnM
import Derived.Test.YtfibjimahkpabaaDoorRowG
import Derived.Test.YtfibjimahkpabaaDoorKit
namespace Go.Proofs.YtfibjimahkpabaaDoor
open Go.RowKit
set_option linter.unusedVariables false

/-- Bools that are only read: nothing, or they lie in block g from some place on. -/
def LsB (w : World) (g : Nat) (A : Option Addr) (bs : List Bool) : Prop := bs = [] ∨ ∃ off, A = some ⟨g, off, none⟩ ∧ ∀ i, i < bs.length → w.cell? ⟨g, off + i, none⟩ = some (.bool (bs[i]?.getD false))
theorem LsB.kept {w w' : World} {g : Nat} {A : Option Addr} {bs : List Bool} (h : LsB w g A bs) (o : Below w.heap.size w w') : LsB w' g A bs := by
  rcases h with h | ⟨off, rfl, h⟩
  · exact .inl h
  · exact .inr ⟨off, rfl, fun i hi => cell_kept o (h i hi)⟩
/-- The first n bools of a slice that came in. -/
theorem rows_lsB {w : World} {a : Option Addr} {len cap : Nat} (h : IsRows w a len cap 1 [(0, .inr false)]) (n : Nat) (hn : n ≤ len) : ∃ g bs, bs.length = n ∧ LsB w g a bs := by
  by_cases h0 : n = 0
  · subst h0; exact ⟨0, [], rfl, .inl rfl⟩
  · obtain ⟨b, off, rfl, _, _, hc⟩ := rows_at h (by omega)
    have key : ∀ i, i < n → ∃ u : Bool, w.cell? ⟨b, off + i, none⟩ = some (.bool u) := by
      intro i hi
      obtain ⟨v, hv, hk⟩ := hc i (by omega) (0, .inr false) (by simp)
      obtain ⟨u, rfl⟩ : ∃ u, v = .bool u := by simpa [leafOk] using hk
      exact ⟨u, by simpa using hv⟩
    refine ⟨b, (List.range n).map fun i => (match w.cell? ⟨b, off + i, none⟩ with | some (.bool u) => u | _ => false), by simp, .inr ⟨off, rfl, fun i hi => ?_⟩⟩
    have hi' : i < n := by simpa using hi
    obtain ⟨u, hu⟩ := key i hi'
    rw [hu]
    simp [hi', hu]

/-- A list of n numbers of its own, made. -/
def ListIn (w : World) (n : Nat) (zs : List Int) (e : Ending) (w' : World) : Prop := ∃ g c, e = .returned (.slice (some ⟨g, 0, none⟩) n c) ∧ OwnK .i64 3 w' w.heap.size (.slice (some ⟨g, 0, none⟩) n c) zs ∧ Below w.heap.size w w'
def PathI (w : World) (c : Int) (ms : List Bool) (n gh : Nat) (vc vi : Value) (wr : World) : Prop :=
  ∃ k : Nat, vi = .int .i64 (k : Int) ∧ n - k = gh ∧ k ≤ n ∧ vc = .int .i64 (codeAt c ms k) ∧ OwnK .i64 3 wr w.heap.size (.slice (some ⟨w.heap.size, 0, none⟩) n n) (pathC c ms k ++ List.replicate (n - k) 0) ∧ Below w.heap.size w wr
set_option maxHeartbeats 1000000 in
theorem path_any (g n cl : Nat) (A : Option Addr) (ms : List Bool) (c : Int) (w : World) (hl : LsB w g A ms) (hL : ms.length = n) (hn : n ≤ 1000) (hc : -9223372036854775808 ≤ c ∧ c ≤ 9223372036854775807) :
    Calls Tryd.prog 9 #[.int .i64 c, .slice A n cl] w (ListIn w n (pathC c ms n)) := by
  have HV := Lib.hid hl
  have HL := Lib.hid hL
  have HC := Lib.hid hc
  clear hl hL hc
  have mk : ∀ w, (Instr.makeSlice 28 (.int .i64 (n : Int)) (.int .i64 (n : Int))).run Tryd.prog w = .ok (.slice (some ⟨w.heap.size, 0, none⟩) n n) (w.alloc (.cells (madeCells #[.int .i64 0] n) 3)) := fun w => make_k elI8 n (by omega) w
  have n0 : (0 : Int) ≤ (n : Int) := by omega
  have O0 := Lib.hid (ownMade (k := .i64) (e := 3) (w := w) n (by omega))
  have B0 := Lib.hid (new_alloc (new_refl w) (.cells (madeCells #[.int .i64 0] n) 3))
  have hlast : Hid (pathC c ms n ++ List.replicate (n - n) 0 = pathC c ms n) := Lib.hid (by simp)
  have HZ := Lib.hid (codeAt_zero c ms)
  go_enter Tryd.func9, Tryd.ntmps9
  go_wp2_with fail
  go_loopg [0, 13] n (fun gh vc vi wr => PathI w c ms n gh vc vi wr)
  case atStart => exact ⟨0, rfl, rfl, by omega, by rw [HZ.out], O0.out, B0.out⟩
  case round =>
    obtain ⟨k, rfl, rfl, hk, rfl, hO, hB⟩ := hrel
    by_cases hlt : k < n
    · have k0 : (0 : Int) ≤ (k : Int) := by omega
      have k1 : (k : Int) < (n : Int) := by omega
      have hk2 : k < ms.length := by rw [HL.out]; exact hlt
      have hf := ownFroz hO k
      obtain ⟨hg1, hg2⟩ := ownLow hO
      have hcl := OwnK.cell hO (i := k) (by simp [pathC_len]; omega)
      have HO := Lib.hid (ownSet hO k (codeAt c ms (k + 1)))
      have SE := Lib.hid (pathC_set c ms n k hlt)
      clear hO
      rcases HV.out.kept hB with h0 | ⟨off, rfl, hcs⟩
      · simp [h0] at hk2
      have c0 := hcs k hk2
      cases hb : ms[k]?.getD false with
      | true =>
        rw [hb] at c0
        have EX := Lib.hid (codeAt_yes (c := c) hk2 hb)
        clear hcs hk2 hb
        generalize codeAt c ms k = x at *
        go_wp2_with (go_at_call 16; refine (mark_any _ _).mono ?_; rintro e w' ⟨rfl, rfl⟩)
        go_roundg (n - (k + 1))
        case measure => omega
        case rel => exact ⟨k + 1, by go_num, rfl, by omega, by rw [EX.out], by rw [← SE.out, ← EX.out]; exact HO.out, new_set hB hg1 _⟩
      | false =>
        rw [hb] at c0
        have EX := Lib.hid (codeAt_no (c := c) hk2 hb)
        clear hcs hk2 hb
        generalize codeAt c ms k = x at *
        go_wp2_with fail
        go_roundg (n - (k + 1))
        case measure => omega
        case rel => exact ⟨k + 1, by go_num, rfl, by omega, by rw [EX.out], by rw [← SE.out, ← EX.out]; exact HO.out, new_set hB hg1 _⟩
    · obtain rfl : k = n := by omega
      rw [hlast.out] at hO
      have HO := Lib.hid hO
      clear hO
      go_wp2_with fail
      go_ret
      exact ⟨_, _, rfl, HO.out, hB⟩

/-- A list of its own. -/
def ListI (w : World) (zs : List Int) (e : Ending) (w' : World) : Prop := ∃ v, e = .returned v ∧ OwnK .i64 3 w' w.heap.size v zs ∧ Below w.heap.size w w'
def RefPathI (w : World) (c : Int) (ms : List Bool) (n gh : Nat) (vo vi : Value) (wr : World) : Prop :=
  ∃ k : Nat, vi = .int .i64 (k : Int) ∧ n - k = gh ∧ k ≤ n ∧ OwnK .i64 3 wr w.heap.size vo (pathC c ms k) ∧ Below w.heap.size w wr
def SomeI (ms : List Bool) (i : Nat) (w : World) (gh : Nat) (vs vk : Value) (wr : World) : Prop :=
  ∃ j : Nat, vk = .int .i64 (j : Int) ∧ i + 1 - j = gh ∧ j ≤ i + 1 ∧ vs = .bool ((ms.take j).any id) ∧ w = wr
theorem codeAt_able {c : Int} {ms : List Bool} {k : Nat} (h : (ms.take k).any id = true) (hi : isC c = true) (h0 : ¬ c = 0) : codeAt c ms k = 3 := by
  unfold codeAt markC
  rw [if_pos h, if_pos]
  simp [isC] at hi
  simp [ableC]; omega
theorem codeAt_not {c : Int} {ms : List Bool} {k : Nat} (h : isC c = false ∨ c = 0) : codeAt c ms k = c := by
  have : ableC c = false := by
    rcases h with h | h
    · simp [isC] at h; simp [ableC]; omega
    · subst h; rfl
  unfold codeAt markC
  rw [this]
  split <;> simp
theorem codeAt_none {c : Int} {ms : List Bool} {k : Nat} (h : (ms.take k).any id = false) : codeAt c ms k = c := by
  unfold codeAt
  rw [h]; simp
set_option maxHeartbeats 2000000 in
theorem refPath_any (g n cl : Nat) (A : Option Addr) (ms : List Bool) (c : Int) (w : World) (hl : LsB w g A ms) (hL : ms.length = n) (hn : n ≤ 1000) (hc : -9223372036854775808 ≤ c ∧ c ≤ 9223372036854775807) :
    Calls Tryd.prog 10 #[.int .i64 c, .slice A n cl] w (ListI w (pathC c ms n)) := by
  have HV := Lib.hid hl
  have HL := Lib.hid hL
  clear hl hL
  go_enter Tryd.func10, Tryd.ntmps10
  go_wp2_with fail
  go_loopg [5, 6] n (fun gh vo vi wr => RefPathI w c ms n gh vo vi wr)
  case atStart => exact ⟨0, rfl, rfl, by omega, OwnK.nil _ _ _ _, new_refl w⟩
  case round =>
    obtain ⟨i, rfl, rfl, hi, hO, hB⟩ := hrel
    have HO := Lib.hid hO
    clear hO
    by_cases hlt : i < n
    · have i0 : (0 : Int) ≤ (i : Int) := by omega
      have i1 : (i : Int) < (n : Int) := by omega
      have hs := hB.size
      have HP := Lib.hid (pathC_len c ms i)
      have HS := Lib.hid (pathC_succ c ms i)
      have V1 := Lib.hid (HV.out.kept hB)
      go_wp2_with fail
      go_loopg [7, 8] (i + 1) (fun gh vs vk wx => SomeI ms i wr gh vs vk wx)
      case atStart => exact ⟨0, rfl, rfl, by omega, rfl, rfl⟩
      case round =>
        obtain ⟨j, rfl, rfl, hj, rfl, rfl⟩ := hrel
        by_cases hji : j < i + 1
        · have j0 : (0 : Int) ≤ (j : Int) := by omega
          have j1 : (j : Int) ≤ (i : Int) := by omega
          have j2 : (j : Int) < (n : Int) := by omega
          have hj2 : j < ms.length := by rw [HL.out]; omega
          have ES := Lib.hid (any_succ hj2)
          rcases V1.out with h0 | ⟨off, rfl, hcs⟩
          · simp [h0] at hj2
          have c0 := hcs j hj2
          clear hcs hj2
          generalize (ms.take j).any id = b at *
          generalize ms[j]?.getD false = d at *
          cases b
          · go_wp2_with fail
            go_roundg (i + 1 - (j + 1))
            case measure => omega
            case rel => exact ⟨j + 1, by go_num, rfl, by omega, by rw [ES.out]; simp, rfl⟩
          · go_wp2_with fail
            go_roundg (i + 1 - (j + 1))
            case measure => omega
            case rel => exact ⟨j + 1, by go_num, rfl, by omega, by rw [ES.out]; simp, rfl⟩
        · obtain rfl : j = i + 1 := by omega
          have hji' : ¬ ((i : Int) + 1 ≤ (i : Int)) := by omega
          cases hb : (ms.take (i + 1)).any id with
          | false =>
            have EC := Lib.hid (codeAt_none (c := c) hb)
            go_wp2_with (first
              | (at_builtin; refine wp_pushK elI8 (by rfl) _ _ (by rfl) w.heap.size _ (pathC c ms i) c _ 1 (by rfl) (by rfl) ((At.new wr [.int .i64 c] _).cell 0 rfl) (HO.out.alloc _) (i + 1) (by rw [HP.out]) (by omega) (alloc_le hs _) _ rfl ?_; intro g3 c3 w3 O3 G3 hat3 hlt3))
            go_roundg (n - (i + 1))
            case measure => omega
            case rel => exact ⟨i + 1, by go_num, rfl, by omega, by rw [HS.out, EC.out]; exact O3, hB.trans ((Below.alloc (Below.refl _ _) hs _).trans (below_push (HO.out.alloc _) G3 (alloc_le hs _)))⟩
          | true =>
            by_cases hN : isC c = false ∨ c = 0
            · have EC := Lib.hid (codeAt_not (ms := ms) (k := i + 1) hN)
              have hN' : (isC c = false) ∨ (isC c = true ∧ c = 0) := by
                cases h : isC c
                · exact .inl rfl
                · exact .inr ⟨rfl, by simpa [h] using hN⟩
              clear hN
              rcases hN' with hN' | ⟨hN', rfl⟩
              · go_wp2_with (first
                  | (go_at_call 13; refine (refIs_any _ _).mono ?_; rintro e w' ⟨rfl, rfl⟩)
                  | (at_builtin; refine wp_pushK elI8 (by rfl) _ _ (by rfl) w.heap.size _ (pathC c ms i) c _ 1 (by rfl) (by rfl) ((At.new wr [.int .i64 c] _).cell 0 rfl) (HO.out.alloc _) (i + 1) (by rw [HP.out]) (by omega) (alloc_le hs _) _ rfl ?_; intro g3 c3 w3 O3 G3 hat3 hlt3))
                go_roundg (n - (i + 1))
                case measure => omega
                case rel => exact ⟨i + 1, by go_num, rfl, by omega, by rw [HS.out, EC.out]; exact O3, hB.trans ((Below.alloc (Below.refl _ _) hs _).trans (below_push (HO.out.alloc _) G3 (alloc_le hs _)))⟩
              · go_wp2_with (first
                  | (go_at_call 13; refine (refIs_any _ _).mono ?_; rintro e w' ⟨rfl, rfl⟩)
                  | (at_builtin; refine wp_pushK elI8 (by rfl) _ _ (by rfl) w.heap.size _ (pathC 0 ms i) 0 _ 1 (by rfl) (by rfl) ((At.new wr [.int .i64 0] _).cell 0 rfl) (HO.out.alloc _) (i + 1) (by rw [HP.out]) (by omega) (alloc_le hs _) _ rfl ?_; intro g3 c3 w3 O3 G3 hat3 hlt3))
                go_roundg (n - (i + 1))
                case measure => omega
                case rel => exact ⟨i + 1, by go_num, rfl, by omega, by rw [HS.out, EC.out]; exact O3, hB.trans ((Below.alloc (Below.refl _ _) hs _).trans (below_push (HO.out.alloc _) G3 (alloc_le hs _)))⟩
            · have hi1 : isC c = true := by cases h : isC c <;> simp_all
              have hz : ¬ c = 0 := fun e => hN (.inr e)
              have EC := Lib.hid (codeAt_able hb hi1 hz)
              clear hN
              go_wp2_with (first
                | (go_at_call 13; refine (refIs_any _ _).mono ?_; rintro e w' ⟨rfl, rfl⟩)
                | (at_builtin; refine wp_pushK elI8 (by rfl) _ _ (by rfl) w.heap.size _ (pathC c ms i) 3 _ 1 (by rfl) (by rfl) ((At.new wr [.int .i64 3] _).cell 0 rfl) (HO.out.alloc _) (i + 1) (by rw [HP.out]) (by omega) (alloc_le hs _) _ rfl ?_; intro g3 c3 w3 O3 G3 hat3 hlt3))
              go_roundg (n - (i + 1))
              case measure => omega
              case rel => exact ⟨i + 1, by go_num, rfl, by omega, by rw [HS.out, EC.out]; exact O3, hB.trans ((Below.alloc (Below.refl _ _) hs _).trans (below_push (HO.out.alloc _) G3 (alloc_le hs _)))⟩
    · obtain rfl : i = n := by omega
      go_wp2_with fail
      go_ret
      exact ⟨_, rfl, HO.out, hB⟩
end Go.Proofs.YtfibjimahkpabaaDoor
