/- Package ring at int: Slice: the items, in order, as a new list. -/
import Derived.Test.YtamcakckbabeiaaRingIA
import Derived.Test.YtamcakckbabeiaaRowK
namespace Go.Proofs.Ytamcakckbabeiaa
namespace R0
open Go.RowKit
set_option linter.unusedVariables false

theorem elem : IsElem .i64 62 3 8 := ⟨Try.underlying62, by kernel_rfl, by decide⟩
abbrev Own (w : World) (base : Nat) (v : Value) (zs : List Int) : Prop := OwnK .i64 3 w base v zs

/-- A list as a result: the numbers zs, in a row of the call's own. -/
def GivesRow (w : World) (zs : List Int) (e : Ending) (w' : World) : Prop :=
  ∃ g c, e = .returned (.slice (some ⟨g, 0, none⟩) zs.length c) ∧ Own w' w.heap.size (.slice (some ⟨g, 0, none⟩) zs.length c) zs ∧ Below w.heap.size w w'

theorem gives_row {w w' : World} {zs : List Int} {n g c : Nat} (hl : zs.length = n) (ho : Own w' w.heap.size (.slice (some ⟨g, 0, none⟩) n c) zs) (hb : Below w.heap.size w w') : GivesRow w zs (.returned (.slice (some ⟨g, 0, none⟩) n c)) w' := by
  subst hl; exact ⟨g, c, rfl, ho, hb⟩

def SlInv (w : World) (zs : List Int) (cnt gh : Nat) (vo vi : Value) (wr : World) : Prop :=
  ∃ k : Nat, k ≤ cnt ∧ gh = cnt - k ∧ vi = .int .i64 (k : Int) ∧ (∃ g c, vo = .slice (some ⟨g, 0, none⟩) k c ∧ w.heap.size ≤ g) ∧ Own wr w.heap.size vo (zs.take k) ∧ Below w.heap.size w wr

theorem take_next {zs : List Int} {k : Nat} {x : Int} (h : zs[k]?.getD 0 = x) (hk : k < zs.length) : zs.take (k + 1) = zs.take k ++ [x] := by
  rw [List.take_succ_eq_append_getElem hk]
  rw [List.getElem?_eq_getElem hk] at h
  rw [← h]; rfl

/-- Of no items. -/
theorem slice_none (b : Nat) (w : World) (h2 : w.cell? ⟨b, 2, none⟩ = some (.int .i64 0)) :
    Calls Try.prog 36 #[.pointer (some ⟨b, 0, none⟩)] w (GivesRow w []) := by
  have mk := make_room elem 0 (by omega) w
  rw [Int.natCast_zero] at mk
  go_enter Try.func36, Try.ntmps36
  go_wp2_with (go_at_call 28; refine (len_any b 0 _ (by first | exact h2 | exact cell_kept (new_alloc (new_refl w) _) h2)).mono ?_; rintro e w' ⟨rfl, rfl⟩)
  go_loopg [3, 10] 0 (fun gh vo vi wr => vi = .int .i64 0 ∧ vo = .slice (some ⟨w.heap.size, 0, none⟩) 0 0 ∧ wr = w.alloc (.cells (madeCells #[.int .i64 0] 0) 3))
  case atStart => exact ⟨rfl, rfl, rfl⟩
  case round =>
    obtain ⟨rfl, rfl, rfl⟩ := hrel
    clear mk
    go_wp2
    go_ret
    exact ⟨_, _, rfl, OwnK.room (Nat.le_refl _) (by omega), new_alloc (new_refl w) _⟩
theorem slice_nil (w : World) :
    Calls Try.prog 36 #[.pointer none] w (GivesRow w []) := by
  have mk := make_room elem 0 (by omega) w
  rw [Int.natCast_zero] at mk
  go_enter Try.func36, Try.ntmps36
  go_wp2_with (go_at_call 28; refine (len_nil _).mono ?_; rintro e w' ⟨rfl, rfl⟩)
  go_loopg [3, 10] 0 (fun gh vo vi wr => vi = .int .i64 0 ∧ vo = .slice (some ⟨w.heap.size, 0, none⟩) 0 0 ∧ wr = w.alloc (.cells (madeCells #[.int .i64 0] 0) 3))
  case atStart => exact ⟨rfl, rfl, rfl⟩
  case round =>
    obtain ⟨rfl, rfl, rfl⟩ := hrel
    clear mk
    go_wp2
    go_ret
    exact ⟨_, _, rfl, OwnK.room (Nat.le_refl _) (by omega), new_alloc (new_refl w) _⟩

set_option maxRecDepth 100000 in
theorem slice_some (b g n c f cnt : Nat) (zs : List Int) (w : World) (h0 : w.cell? ⟨b, 0, none⟩ = some (.slice (some ⟨g, 0, none⟩) n c)) (h1 : w.cell? ⟨b, 1, none⟩ = some (.int .i64 (f : Int))) (h2 : w.cell? ⟨b, 2, none⟩ = some (.int .i64 (cnt : Int)))
    (hn : 1 ≤ n) (hm : n ≤ 65536) (hf : f ≤ 65536) (hc : cnt ≤ 65536) (hc1 : 0 < cnt) (hl : zs.length = cnt) (hz : ∀ i, i < cnt → w.cell? ⟨g, (f + i) % n, none⟩ = some (.int .i64 (zs[i]?.getD 0))) :
    Calls Try.prog 36 #[.pointer (some ⟨b, 0, none⟩)] w (GivesRow w zs) := by
  have mk := make_room elem cnt (by omega) w
  have Z := Lib.hid hz
  have L := Lib.hid hl
  have hbw : b < w.heap.size := World.block_lt_of_cell? w _ h0
  have hgw : g < w.heap.size := World.block_lt_of_cell? w _ (hz 0 hc1)
  clear hz hl
  go_enter Try.func36, Try.ntmps36
  go_wp2_with (go_at_call 28; refine (len_any b (cnt : Int) _ (by first | exact h2 | exact cell_kept (new_alloc (new_refl w) _) h2)).mono ?_; rintro e w' ⟨rfl, rfl⟩)
  go_loopg [3, 10] cnt (fun gh vo vi wr => SlInv w zs cnt gh vo vi wr)
  case atStart => exact ⟨0, by omega, rfl, rfl, ⟨_, _, rfl, Nat.le_refl _⟩, OwnK.room (Nat.le_refl _) (by omega), new_alloc (new_refl w) _⟩
  case round =>
    obtain ⟨k, hk, rfl, rfl, ⟨go, co, rfl, hgo⟩, hown, hbel⟩ := hrel
    clear mk
    have c0 := cell_kept hbel h0
    have c1 := cell_kept hbel h1
    have hsz := hbel.size
    by_cases hlt : k < cnt
    · obtain ⟨p, hp⟩ : ∃ p, (f + k) % n = p := ⟨_, rfl⟩
      have hx := cell_kept hbel (Z.out k hlt)
      rw [hp] at hx
      have hpn : p < n := by have := Nat.mod_lt (f + k) (show 0 < n by omega); omega
      have P := Lib.hid hp
      clear hp
      obtain ⟨x, hxx⟩ : ∃ x, zs[k]?.getD 0 = x := ⟨_, rfl⟩
      rw [hxx] at hx
      have X := Lib.hid hxx
      clear hxx
      have k1 : (0 : Int) ≤ (p : Int) := by omega
      have k2 : (p : Int) < (n : Int) := by omega
      have hk' : k ≤ 65536 := by omega
      have hl2 : k + 1 ≤ 1000000000 := by omega
      have hl1 := Lib.hid (show (zs.take k).length + 1 = k + 1 by rw [List.length_take, L.out]; omega)
      have hown' := Lib.hid hown
      clear hown
      go_wp2_with fail
      go_region_held3 (fun w' => w'.cell? ⟨b, 0, none⟩ = some (.slice (some ⟨g, 0, none⟩) n c) ∧ w'.cell? ⟨b, 1, none⟩ = some (.int .i64 (f : Int)) ∧ w'.cell? ⟨g, p, none⟩ = some (.int .i64 x))
        (first | go_keep | exact ⟨cell_low B1 hbw c0, cell_low B1 hbw c1, cell_low B1 hgw hx⟩)
        (first
          | (go_at_call 32; refine (place_at b n c f k p (some ⟨g, 0, none⟩) _ ?_ ?_ hn hf hk' P).mono ?_; (exact c0); (exact c1); rintro e w' ⟨rfl, m, rfl⟩)
          | (refine step_pushK elem (o := ⟨some 24, _, _, _, _, _⟩) rfl _ _ rfl w.heap.size _ (zs.take k) x wr.heap.size 1 rfl rfl ((At.new (wr.drewN _) [.int .i64 x] _).cell 0 rfl) ((hown'.out.draw _).alloc _) (k + 1) hl1.out hl2 (alloc_le (W := wr.drewN _) hsz _) (wr.heap.size + 1) (alloc_size (wr.drewN _) _) ?_; intro g1 cap1 w1 ho hg hat hlt1; have B1 := push_below hown'.out hg hsz; clear hg hat))
      go_wp2
      go_roundg (cnt - (k + 1))
      case measure => omega
      case rel => exact ⟨k + 1, by omega, rfl, by go_num, ⟨_, _, rfl, (World.ownsRow.lt ho g1 rfl).1⟩, by rw [take_next X.out (by rw [L.out]; exact hlt)]; exact ho, hbel.trans B1⟩
    · obtain rfl : k = cnt := by omega
      go_wp2
      go_ret
      rw [List.take_of_length_le (by rw [L.out]; omega)] at hown
      exact gives_row L.out hown hbel
end R0
end Go.Proofs.Ytamcakckbabeiaa
