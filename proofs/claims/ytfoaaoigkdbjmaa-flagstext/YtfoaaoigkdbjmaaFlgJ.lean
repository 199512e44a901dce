/- Package flags: Parse. -/
import Derived.Test.YtfoaaoigkdbjmaaFlgH
import Derived.Test.YtfoaaoigkdbjmaaFlgD
namespace Go.Proofs.Ytfoaaoigkdbjmaa
open Go.RowKit
set_option linter.unusedVariables false

/-- Flags by letters, one behind the other. -/
def runF : Int → List Int → Option Int
  | f, [] => some f
  | f, c :: cs => if lvF c = 0 then none else if hasF f (lvF c) then none else runF (f + lvF c) cs
/-- The flags of a text. -/
def parF (s : ByteArray) : Option Int := if s = ⟨#[45]⟩ then some 0 else runF 0 (sb s)
def rvF (r : Option Int) : Int := r.getD 0
theorem lvF_is (r : Int) : lvF r = 0 ∨ lvF r = 1 ∨ lvF r = 2 ∨ lvF r = 4 ∨ lvF r = 8 ∨ lvF r = 16 ∨ lvF r = 32 := by
  unfold lvF
  repeat' split
  all_goals simp
theorem orv0_n : ∀ n : Nat, n < 64 → hasF (n : Int) 1 = false → bits .or .u8 (n : Int) 1 = (n : Int) + 1 ∧ (n : Int) + 1 ≤ 63 := by decide +kernel
theorem orv1_n : ∀ n : Nat, n < 64 → hasF (n : Int) 2 = false → bits .or .u8 (n : Int) 2 = (n : Int) + 2 ∧ (n : Int) + 2 ≤ 63 := by decide +kernel
theorem orv2_n : ∀ n : Nat, n < 64 → hasF (n : Int) 4 = false → bits .or .u8 (n : Int) 4 = (n : Int) + 4 ∧ (n : Int) + 4 ≤ 63 := by decide +kernel
theorem orv3_n : ∀ n : Nat, n < 64 → hasF (n : Int) 8 = false → bits .or .u8 (n : Int) 8 = (n : Int) + 8 ∧ (n : Int) + 8 ≤ 63 := by decide +kernel
theorem orv4_n : ∀ n : Nat, n < 64 → hasF (n : Int) 16 = false → bits .or .u8 (n : Int) 16 = (n : Int) + 16 ∧ (n : Int) + 16 ≤ 63 := by decide +kernel
theorem orv5_n : ∀ n : Nat, n < 64 → hasF (n : Int) 32 = false → bits .or .u8 (n : Int) 32 = (n : Int) + 32 ∧ (n : Int) + 32 ≤ 63 := by decide +kernel
theorem sixF {P : Int → Prop} (h : ∀ n : Nat, n < 64 → P (n : Int)) {x : Int} (hx : 0 ≤ x ∧ x ≤ 63) : P x := by
  have := h x.toNat (by omega)
  rwa [Int.toNat_of_nonneg hx.1] at this
theorem and_has {f r : Int} (hf : 0 ≤ f ∧ f ≤ 63) (h0 : lvF r ≠ 0) : (bits .and .u8 f (lvF r) != 0) = hasF f (lvF r) := by
  have hf' : 0 ≤ f ∧ f ≤ 255 := by omega
  rcases lvF_is r with h | h | h | h | h | h | h
  · exact absurd h h0
  · rw [h]; exact byteF (P := fun x => (bits .and .u8 x 1 != 0) = hasF x 1) andv0_n hf'
  · rw [h]; exact byteF (P := fun x => (bits .and .u8 x 2 != 0) = hasF x 2) andv1_n hf'
  · rw [h]; exact byteF (P := fun x => (bits .and .u8 x 4 != 0) = hasF x 4) andv2_n hf'
  · rw [h]; exact byteF (P := fun x => (bits .and .u8 x 8 != 0) = hasF x 8) andv3_n hf'
  · rw [h]; exact byteF (P := fun x => (bits .and .u8 x 16 != 0) = hasF x 16) andv4_n hf'
  · rw [h]; exact byteF (P := fun x => (bits .and .u8 x 32 != 0) = hasF x 32) andv5_n hf'
theorem or_has {f r : Int} (hf : 0 ≤ f ∧ f ≤ 63) (h0 : lvF r ≠ 0) (hn : hasF f (lvF r) = false) : bits .or .u8 f (lvF r) = f + lvF r ∧ f + lvF r ≤ 63 := by
  rcases lvF_is r with h | h | h | h | h | h | h
  · exact absurd h h0
  · rw [h] at hn ⊢; exact sixF (P := fun x => hasF x 1 = false → bits .or .u8 x 1 = x + 1 ∧ x + 1 ≤ 63) orv0_n hf hn
  · rw [h] at hn ⊢; exact sixF (P := fun x => hasF x 2 = false → bits .or .u8 x 2 = x + 2 ∧ x + 2 ≤ 63) orv1_n hf hn
  · rw [h] at hn ⊢; exact sixF (P := fun x => hasF x 4 = false → bits .or .u8 x 4 = x + 4 ∧ x + 4 ≤ 63) orv2_n hf hn
  · rw [h] at hn ⊢; exact sixF (P := fun x => hasF x 8 = false → bits .or .u8 x 8 = x + 8 ∧ x + 8 ≤ 63) orv3_n hf hn
  · rw [h] at hn ⊢; exact sixF (P := fun x => hasF x 16 = false → bits .or .u8 x 16 = x + 16 ∧ x + 16 ≤ 63) orv4_n hf hn
  · rw [h] at hn ⊢; exact sixF (P := fun x => hasF x 32 = false → bits .or .u8 x 32 = x + 32 ∧ x + 32 ≤ 63) orv5_n hf hn
theorem lvF_pos (r : Int) : 0 ≤ lvF r ∧ lvF r ≤ 32 := by rcases lvF_is r with h | h | h | h | h | h | h <;> omega
theorem sb_at {s : ByteArray} {p : Nat} (h : p < s.size) : bF (sb s) p = ((s[p]'h).toNat : Int) := by
  obtain ⟨⟨l⟩⟩ := s
  have h' : p < l.length := h
  simp only [bF, sb, List.getElem?_map, List.getElem?_eq_getElem h']
  rfl
theorem sb_drop {s : ByteArray} {p : Nat} (h : p < s.size) : (sb s).drop p = bF (sb s) p :: (sb s).drop (p + 1) := by
  have h' : p < (sb s).length := by rw [sb_len]; exact h
  rw [List.drop_eq_getElem_cons h']
  congr 1
  rw [bF, List.getElem?_eq_getElem h']
  rfl
theorem sb_end {s : ByteArray} {p : Nat} (h : s.size ≤ p) : (sb s).drop p = [] := List.drop_eq_nil_of_le (by rw [sb_len]; exact h)

/-- An iterator over a text, in block g, moved on. -/
def iterAt (w : World) (g : Nat) (s : ByteArray) (p : Nat) : World := { w with heap := w.heap.setIfInBounds g (.stringIter s p) }
theorem iterAt_heap {w : World} {g : Nat} (s : ByteArray) (p : Nat) (h : g < w.heap.size) : (iterAt w g s p).heap[g]? = some (.stringIter s p) := by
  show (w.heap.setIfInBounds g (.stringIter s p))[g]? = _
  rw [Array.getElem?_setIfInBounds_self_of_lt h]
theorem iterAt_size (w : World) (g : Nat) (s : ByteArray) (p : Nat) : (iterAt w g s p).heap.size = w.heap.size := by simp [iterAt]
theorem iterAt_new {a w : World} {g : Nat} (s : ByteArray) (p : Nat) (h : Below a.heap.size a w) (hg : a.heap.size ≤ g) : Below a.heap.size a (iterAt w g s p) :=
  ⟨h.os, h.tape, h.output, by rw [iterAt_size]; exact h.size, fun k hk => by
    show (w.heap.setIfInBounds g (.stringIter s p))[k]? = _
    rw [Array.getElem?_setIfInBounds_ne (by omega)]
    exact h.block k hk⟩
theorem next_at (w : World) (g : Nat) (s : ByteArray) (pos : Nat) (ty : TypeId) (hb : w.heap[g]? = some (.stringIter s pos)) (h : pos < s.size) :
    (Instr.next (.pointer (some ⟨g, 0, none⟩)) true ty).run Try.prog w = .ok (.tuple #[.bool true, .int .i64 pos, .int .i32 (Utf8.decode s pos).1]) (iterAt w g s (pos + (Utf8.decode s pos).2)) := by
  simp only [Instr.next, getObj, setObj, Sem.run_bind, Sem.run, hb, Result.andThen, h, if_true]
  simp [goInt, iterAt]
theorem next_fin (w : World) (g : Nat) (s : ByteArray) (pos : Nat) (ty : TypeId) (hb : w.heap[g]? = some (.stringIter s pos)) (h : ¬ pos < s.size) :
    (Instr.next (.pointer (some ⟨g, 0, none⟩)) true ty).run Try.prog w = .ok (.tuple #[.bool false]) w := by
  simp [Instr.next, getObj, Sem.run, hb, h]
/-- What comes next, as far as it is a letter or none. -/
theorem next_is {w : World} {g : Nat} {s : ByteArray} {p : Nat} (hb : w.heap[g]? = some (.stringIter s p)) (h : p < s.size) :
    ∃ (r : Int) (q : Nat), (∀ ty, (Instr.next (.pointer (some ⟨g, 0, none⟩)) true ty).run Try.prog w = .ok (.tuple #[.bool true, .int .i64 p, .int .i32 r]) (iterAt w g s q)) ∧ 0 ≤ r ∧ r ≤ 2147483647 ∧ lvF r = lvF (bF (sb s) p) ∧ (lvF r ≠ 0 → q = p + 1) := by
  refine ⟨(Utf8.decode s p).1, p + (Utf8.decode s p).2, fun ty => next_at w g s p ty hb h, Int.natCast_nonneg _, by have := decode_le s p; omega, ?_, ?_⟩
  · rw [sb_at h]
    by_cases ha : (s[p]'h).toNat < 128
    · rw [decode_ascii s p h ha]
    · have hd := (decode_high s p h (by omega)).1
      rw [lvF_high (by omega), lvF_high (by omega)]
  · intro hl
    by_cases ha : (s[p]'h).toNat < 128
    · rw [decode_ascii s p h ha]
    · have hd := (decode_high s p h (by omega)).1
      exact absurd (lvF_high (by omega)) hl
theorem dashF {s : ByteArray} (h : s ≠ ⟨#[45]⟩) : (s.toList == [45]) = false := by
  have h1 := strF s ⟨#[45]⟩
  have h2 : (ByteArray.mk #[45]).toList = [45] := by rw [ByteArray.toList_eq]
  rw [h2, decide_eq_false h] at h1
  exact h1
theorem ret_ub {a a' : Int} {b b' : Bool} (h : a = a') (h' : b = b') : Ending.returned (.tuple #[.int .u8 a, .bool b]) = .returned (.tuple #[.int .u8 a', .bool b']) := by rw [h, h']
/-- What Parse tells. -/
def ParTo (w : World) (r : Option Int) (e : Ending) (w' : World) : Prop := e = .returned (.tuple #[.int .u8 (rvF r), .bool r.isSome]) ∧ Below w.heap.size w w'
def PaI (s : ByteArray) (w : World) (R : Option Int) (gh : Nat) (vf : Value) (wr : World) : Prop :=
  ∃ (p : Nat) (f : Int), s.size - p = gh ∧ p ≤ s.size ∧ vf = .int .u8 f ∧ (0 ≤ f ∧ f ≤ 63) ∧ runF f ((sb s).drop p) = R ∧ wr.heap[w.heap.size]? = some (.stringIter s p) ∧ Below w.heap.size w wr
theorem flagOf_is (r v : Int) (w : World) (h : 0 ≤ r ∧ r ≤ 2147483647) (hv : lvF r = v) : Calls Try.prog 27 #[.int .i32 r] w fun e w' => e = .returned (.int .u8 v) ∧ Below w.heap.size w w' := by
  subst hv; exact flagOf_any r w h
theorem blk_lt {w : World} {g : Nat} {o : Obj} (h : w.heap[g]? = some o) : g < w.heap.size := by
  rcases Nat.lt_or_ge g w.heap.size with hlt | hge
  · exact hlt
  · rw [Array.getElem?_eq_none hge] at h; cases h
set_option maxRecDepth 100000 in
set_option maxHeartbeats 1000000 in
theorem parse11_any (s : ByteArray) (w : World) (hs : s.size ≤ 100) : Calls Try.prog 16 #[.string s] w (ParTo w (parF s)) := by
  by_cases hd : s = ⟨#[45]⟩
  · subst hd
    go_enter Try.func16, Try.ntmps16
    go_wp2_with fail
    go_ret2
    exact ⟨rfl, new_refl w⟩
  · have hq := dashF hd
    have hR : parF s = runF 0 (sb s) := by unfold parF; rw [if_neg hd]
    rw [hR]
    clear hd hR
    go_enter Try.func16, Try.ntmps16
    go_wp2_with fail
    clear hq
    go_loopg [4] s.size (fun gh vf wr => PaI s w (runF 0 (sb s)) gh vf wr)
    case atStart => exact ⟨0, 0, rfl, by omega, rfl, by omega, rfl, World.iter_heap w s 0, new_iter (new_refl w) _ _⟩
    case round =>
      obtain ⟨p, f, rfl, hp, rfl, hf, hR, hb, hB⟩ := hrel
      have HR := Lib.hid hR
      clear hR
      generalize runF 0 (sb s) = R at *
      have hg := blk_lt hb
      by_cases hlt : p < s.size
      · obtain ⟨r, q, hn, r0, r1, hl, hq⟩ := next_is hb hlt
        have HE := Lib.hid (sb_drop hlt)
        have B1 := Lib.hid (iterAt_new s q hB (Nat.le_refl _))
        have I1 := Lib.hid (iterAt_heap s q hg)
        have HL := Lib.hid hl
        by_cases h0 : lvF r = 0
        · have e : Hid (R = none) := Lib.hid (by rw [← HR.out, HE.out]; unfold runF; rw [if_pos (HL.out ▸ h0)])
          have H0 := Lib.hid h0
          clear hq hl h0
          go_wp2_with (first
            | (go_at_call 27; refine (flagOf_is r 0 _ ⟨r0, r1⟩ H0.out).mono ?_; rintro e w2 ⟨rfl, B2⟩))
          go_ret2
          exact ⟨by rw [e.out]; rfl, new_then B1.out B2⟩
        · have e1 := and_has hf h0
          have h1 : (lvF r == 0) = false := by simp [h0]
          obtain rfl := hq h0
          have hv := lvF_pos r
          have HV : Hid (lvF r = lvF r) := Lib.hid rfl
          cases hh : hasF f (lvF r)
          · obtain ⟨e2, e3⟩ := or_has hf h0 hh
            have e : Hid (runF (f + lvF r) ((sb s).drop (p + 1)) = R) := Lib.hid (by
              rw [← HR.out, HE.out]
              conv => rhs; unfold runF
              rw [← HL.out, if_neg h0, hh]; rfl)
            rw [hh] at e1
            clear hh h0 hq hl HL HV
            obtain ⟨v, hv'⟩ : ∃ v, lvF r = v := ⟨_, rfl⟩
            rw [hv'] at e1 h1 hv e2 e3 e
            have HV := Lib.hid hv'
            clear hv'
            go_wp2_with (first
              | (go_at_call 27; refine (flagOf_is r v _ ⟨r0, r1⟩ HV.out).mono ?_; rintro e w2 ⟨rfl, B2⟩))
            go_roundg (s.size - (p + 1))
            case measure => omega
            case rel => exact ⟨p + 1, f + v, rfl, by omega, rfl, by omega, e.out, (B2.block _ (by rw [iterAt_size]; exact hg)).trans I1.out, new_then B1.out B2⟩
          · have e : Hid (R = none) := Lib.hid (by
              rw [← HR.out, HE.out]
              unfold runF
              rw [← HL.out, if_neg h0, hh]; rfl)
            rw [hh] at e1
            clear hh h0 hq hl HL HV
            obtain ⟨v, hv'⟩ : ∃ v, lvF r = v := ⟨_, rfl⟩
            rw [hv'] at e1 h1 hv
            have HV := Lib.hid hv'
            clear hv'
            go_wp2_with (first
              | (go_at_call 27; refine (flagOf_is r v _ ⟨r0, r1⟩ HV.out).mono ?_; rintro e w2 ⟨rfl, B2⟩))
            go_ret2
            exact ⟨by rw [e.out]; rfl, new_then B1.out B2⟩
      · obtain rfl : p = s.size := by omega
        have hn := fun ty => next_fin wr w.heap.size s s.size ty hb (by omega)
        have e : Hid (some f = R) := Lib.hid (by rw [← HR.out, sb_end (Nat.le_refl _)]; rfl)
        go_wp2_with fail
        go_ret2
        exact ⟨by rw [← e.out]; rfl, hB⟩
end Go.Proofs.Ytfoaaoigkdbjmaa
