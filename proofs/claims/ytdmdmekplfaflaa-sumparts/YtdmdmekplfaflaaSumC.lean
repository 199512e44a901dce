/- Package sum: put, Fill; bytes.Clone. -/
import Derived.Test.YtdmdmekplfaflaaSumB
namespace Go.Proofs.Ytdmdmekplfaflaa
open Go.RowKit
set_option linter.unusedVariables false

theorem own_ls {k : IntKind} {e : TypeId} {w : World} {base g n c : Nat} {zs : List Int} (h : OwnK k e w base (.slice (some ⟨g, 0, none⟩) n c) zs) : LsK k w g (some ⟨g, 0, none⟩) zs := at_ls rfl h.at_
theorem own_pt {w : World} {base g n c : Nat} {zs : List Int} (h : OwnB w base (.slice (some ⟨g, 0, none⟩) n c) zs) (hb : bytS zs) : PtAt w ⟨some ⟨g, 0, none⟩, n, c, g, zs⟩ := ⟨own_ls h, h.blk.1.symm, hb⟩

/-- bytes.Clone of bytes that are there. -/
theorem cloneY_any (a : Addr) (m c : Nat) (ys : List Int) (w : World) (h : Src .u8 w (some a) m c ys) (hm : m ≤ 1000000) :
    Calls Try.prog 16 #[.slice (some a) m c] w (ListOf w ys) := by
  have HL : Hid (([] : List Int).length + ys.length ≤ 1000000000) := Lib.hid (by have := h.1; simp; omega)
  have HS := Lib.hid h
  clear h
  have hq : ∀ (w : World) (a : Option Addr) (n c n' c' : Nat), (binOp .eql 22 (.slice a n c) (.slice none n' c')).run Try.prog w = .ok (.bool a.isNone) w := fun w a n c n' c' => Lib.run_eql_slice_nil w _ _ a n c n' c' Try.underlying22
  go_enter Try.func16, Try.ntmps16
  go_wp2_with (first
    | (at_builtin; refine wp_catK elB (by rfl) _ _ (by rfl) w.heap.size _ [] _ _ _ ys (by rfl) (by rfl) (HS.out.kept (new_alloc (new_refl w) _)) (OwnK.made0 (Nat.le_refl _)) HL.out (alloc_le (Nat.le_refl _) _) ?_; intro v1 w1 O1 G1 hat1))
  go_ret
  exact ⟨v1, rfl, O1, (new_alloc (new_refl w) _).trans (below_push (OwnK.made0 (k := .u8) (Nat.le_refl _)) G1 (alloc_le (Nat.le_refl _) _))⟩

/-- Two bytes were put. -/
def PutTo (w : World) (base g n c : Nat) (zs : List Int) (e : Ending) (w' : World) : Prop := e = .returned (.tuple #[]) ∧ OwnB w' base (.slice (some ⟨g, 0, none⟩) n c) zs ∧ Below base w w'
theorem put10_any (base g n c p : Nat) (zs : List Int) (x : Int) (w : World) (h : OwnB w base (.slice (some ⟨g, 0, none⟩) n c) zs) (hp : p + 2 ≤ n) (hn : n ≤ 100000) (x0 : 0 ≤ x) (x1 : x ≤ 65535) :
    Calls Try.prog 17 #[.slice (some ⟨g, 0, none⟩) n c, .int .i64 (p : Int), .int .u16 x] w (PutTo w base g n c (fillS zs p (x / 256) (x % 256))) := by
  have hl := h.blk.1
  have HO := Lib.hid (ownSet (ownSet h p (x / 256)) (p + 1) (x % 256))
  have hlow := (ownLow h).1
  have HB : Hid (Below base w ((w.setCell ⟨g, p, none⟩ (.int .u8 (x / 256))).setCell ⟨g, p + 1, none⟩ (.int .u8 (x % 256)))) := Lib.hid (Below.setCell (p := ⟨g, p + 1, none⟩) (Below.setCell (p := ⟨g, p, none⟩) (Below.refl _ _) hlow _) hlow _)
  rw [fill_set _ _ (by omega)] at HO
  have f0 := ownFroz h p
  have f1 := ownFroz h (p + 1)
  have c0 := OwnK.cell h (i := p) (by omega)
  have c1 := OwnK.cell h (i := p + 1) (by omega)
  have p0 : (0 : Int) ≤ (p : Int) := by omega
  have p1 : (p : Int) < (n : Int) := by omega
  have p2 : (p : Int) + 1 < (n : Int) := by omega
  have e1 : IntKind.u8.wrap (x / 256) = x / 256 := by rw [IntKind.wrap_u8]; omega
  have e2 : IntKind.u8.wrap x = x % 256 := IntKind.wrap_u8 _
  clear h hl
  go_enter Try.func17, Try.ntmps17
  go_wp2_with fail
  refine bodyPost_end (results_none rfl _ _ _) rfl ?_
  exact ⟨rfl, HO.out, HB.out⟩

/-- May it be filled there? -/
def mayS (n : Nat) (a : Int) : Prop := 0 ≤ a ∧ a % 2 = 0 ∧ a + 2 ≤ (n : Int)
theorem fill_no (A : Option Addr) (n c : Nat) (a : Int) (w : World) (hn : n ≤ 100000) (ha : -9223372036854775808 ≤ a ∧ a ≤ 9223372036854775807) (h : ¬ mayS n a) :
    Calls Try.prog 10 #[.slice A n c, .int .i64 a] w fun e w' => e = .returned (.tuple #[.slice none 0 0, .bool false]) ∧ w = w' := by
  obtain ⟨a0, a1⟩ := ha
  have h' : a < 0 ∨ (0 ≤ a ∧ ¬ a % 2 = 0) ∨ (0 ≤ a ∧ a % 2 = 0 ∧ (n : Int) - 2 < a) := by unfold mayS at h; omega
  clear h
  rcases h' with h | ⟨h0, h1⟩ | ⟨h0, h1, h2⟩
  all_goals
    go_enter Try.func10, Try.ntmps10
    go_wp2_with fail
    go_ret2
    exact ⟨rfl, rfl⟩
/-- What was filled. -/
def FillTo (w : World) (zs : List Int) (n : Nat) (e : Ending) (w' : World) : Prop := ∃ g c, e = .returned (.tuple #[.slice (some ⟨g, 0, none⟩) n c, .bool true]) ∧ OwnB w' w.heap.size (.slice (some ⟨g, 0, none⟩) n c) zs ∧ Below w.heap.size w w'
theorem src_some {k : IntKind} {w : World} {A : Option Addr} {n c : Nat} {ys : List Int} (h : Src k w A n c ys) (hn : 0 < n) : ∃ a, A = some a := by
  rcases h.2 with ⟨_, h0, _⟩ | ⟨a, h1, _⟩
  · omega
  · exact ⟨a, h1⟩
set_option maxHeartbeats 1000000 in
theorem fill_yes (A : Option Addr) (n c p : Nat) (ys : List Int) (w : World) (h : Src .u8 w A n c ys) (hb : bytS ys) (hn : n ≤ 100000) (hp : p + 2 ≤ n) (h2 : (p : Int) % 2 = 0) :
    Calls Try.prog 10 #[.slice A n c, .int .i64 (p : Int)] w (FillTo w (filS ys p) n) := by
  obtain ⟨a, rfl⟩ := src_some h (by omega)
  have hl := h.1
  have HS := Lib.hid h
  have HL := Lib.hid hl
  have HB := Lib.hid hb
  have p0 : (0 : Int) ≤ (p : Int) := by omega
  have p1 : (p : Int) ≤ (n : Int) - 2 := by omega
  have hc := chk_bd hb p
  have H0 := Lib.hid (fill_byt (p := p) (a := 0) (b := 0) hb (by omega) (by omega))
  have EF : Hid (fillS (fillS ys p 0 0) p (chkS ys p / 256) (chkS ys p % 256) = filS ys p) := Lib.hid (fill_fill _ _ _ _ (by omega))
  have E0 : Hid (fillS ys p (0 / 256) (0 % 256) = fillS ys p 0 0) := Lib.hid rfl
  have ES : Hid (ckS (fillS ys p 0 0) = chkS ys p) := Lib.hid rfl
  have HLen : Hid (ys.length = n) := Lib.hid hl.symm
  obtain ⟨c0, c1⟩ := hc
  clear h hb hl
  go_enter Try.func10, Try.ntmps10
  go_wp2_with (first
    | (go_at_call 16; refine (cloneY_any a n c ys _ HS.out (by omega)).mono ?_; rintro e w1 ⟨v1, rfl, O1, B1⟩; obtain ⟨g, cg, rfl, hg1, hg2⟩ := O1.some HLen.out (by omega))
    | (go_at_call 17; have h := B3; clear h; refine (put10_any w.heap.size g n cg p (fillS ys p 0 0) (chkS ys p) _ O3 hp hn c0 c1).mono ?_; rw [EF.out]; rintro e w4 ⟨rfl, O4, B4⟩)
    | (go_at_call 17; refine (put10_any w.heap.size g n cg p ys 0 w1 O1 hp hn (by decide) (by decide)).mono ?_; rw [E0.out]; rintro e w2 ⟨rfl, O2, B2⟩)
    | (go_at_call 6; refine (sumOne_any ⟨some ⟨g, 0, none⟩, n, cg, g, fillS ys p 0 0⟩ w2 _ _ rfl (own_pt O2 H0.out) hn).mono ?_; rw [ES.out]; rintro e w3 ⟨rfl, rfl⟩; have O3 := O2.alloc (.cells #[.slice (some ⟨g, 0, none⟩) n cg] 22); have B3 := Below.alloc (Below.trans B1 B2) (Below.trans B1 B2).size (.cells #[.slice (some ⟨g, 0, none⟩) n cg] 22)))
  go_ret2
  exact ⟨g, cg, rfl, O4, B3.trans B4⟩
end Go.Proofs.Ytdmdmekplfaflaa
