/- Package code: PutInt, PutText; the document's PutText; bytes as a text. -/
import Derived.Test.YthokfnbmjkekfaaCodA
import Derived.Test.YthokfnbmjkekfaaRef7A
import Derived.Lib.AppendStr
import Derived.Laws.BytesArg
namespace Go.Proofs.Ythokfnbmjkekfaa
open Go.RowKit
set_option linter.unusedVariables false

/-- A text's bytes. -/
def sb (s : ByteArray) : List Int := s.data.toList.map fun b => (b.toNat : Int)
theorem sb_len (s : ByteArray) : (sb s).length = s.size := by rw [sb, List.length_map, Array.length_toList]; rfl
theorem sb_byte (s : ByteArray) : ∀ c ∈ sb s, 0 ≤ c ∧ c ≤ 255 := by
  intro c hc
  simp only [sb, List.mem_map] at hc
  obtain ⟨b, _, rfl⟩ := hc
  have := b.toNat_lt
  omega
theorem sb_back (s : ByteArray) : strOfNums (sb s) = s := by
  obtain ⟨⟨l⟩⟩ := s
  have e : ((fun n : Int => UInt8.ofNat n.toNat) ∘ fun b : UInt8 => (b.toNat : Int)) = id := by funext b; simp
  simp [strOfNums, sb, e]
theorem strCells_sb (s : ByteArray) : Lib.strCells s = (sb s).map (Value.int .u8) := by simp [Lib.strCells, sb]

/-- 'append(out, s...)', s a text. -/
theorem wp_strB {ops : Array Oper} {rest : List Oper} {o : Oper} {a : Act} {Q : Exit → Act → World → Prop} {W : World} (hgd : o.guard = none) (sl x : Operand)
    (ho : o.op = .call { callee := .builtin .append, args := #[sl, x], argTypes := #[22, 9] })
    (base : Nat) (v : Value) (zs : List Int) (s : ByteArray) (hs : a.eval sl = v) (hx : a.eval x = .string s) (hown : OwnB W base v zs) (hlen : zs.length + s.size ≤ 1000000000) (hbase : base ≤ W.heap.size)
    (h : ∀ v' w', OwnB w' base v' (zs ++ sb s) → W.grownBy w' v.ownBlock → wpList Try.prog ops Q rest (a.put o.dst v') w') : wpList Try.prog ops Q (o :: rest) a W := by
  obtain ⟨i0, hi, hz0, hz1, hz2⟩ := info_parts elB.info
  refine Lib.wpList_append_own_string _ hgd sl x _ _ ho base 5 i0 elB.und (by kernel_rfl) hi hz0 hz1 hz2 v zs.length (zs.map (Value.int .u8)) hs hown s hx (by unfold maxLen; omega) (by omega) hbase ?_
  intro v' w' h1 h2 _
  refine h v' w' ?_ h2
  unfold OwnB OwnK
  rw [List.map_append, List.length_append, sb_len, ← strCells_sb]
  exact h1
/-- Bytes as a text. -/
theorem text_own {w : World} {base g n c : Nat} {zs : List Int} (h : OwnB w base (.slice (some ⟨g, 0, none⟩) n c) zs) : (convert 22 9 (.slice (some ⟨g, 0, none⟩) n c)).run Try.prog w = .ok (.string (strOfNums zs)) w := by
  obtain ⟨hn, _, _, _, cur, _, _, _⟩ := h.blk
  refine run_convert_bytes_arg w _ _ elB.und (by kernel_rfl) g 0 n c zs hn.symm (fun i hi => ?_) _ (by kernel_rfl)
  rw [Nat.zero_add, List.getD_eq_getElem?_getD]
  exact h.cell (by omega)

/-- A list of its own, which is not empty. -/
def BytesOf (w : World) (zs : List Int) (n : Nat) (e : Ending) (w' : World) : Prop :=
  ∃ g c, e = .returned (.slice (some ⟨g, 0, none⟩) n c) ∧ OwnB w' w.heap.size (.slice (some ⟨g, 0, none⟩) n c) zs ∧ Below w.heap.size w w'
theorem ListOf.bytes {w w' : World} {zs : List Int} {n : Nat} {e : Ending} (h : ListOf w zs e w') (hn : zs.length = n) (h0 : 0 < n) : BytesOf w zs n e w' := by
  obtain ⟨v, rfl, O, B⟩ := h
  obtain ⟨g, c, rfl, _, _⟩ := O.some hn h0
  exact ⟨g, c, rfl, O, B⟩
theorem lsk_new (w : World) (x : Int) (t : TypeId) : LsK .u64 (w.alloc (.cells #[.int .u64 x] t)) w.heap.size (some ⟨w.heap.size, 0, none⟩) [x] :=
  .inr ⟨0, rfl, fun i hi => by
    have : i = 0 := by simpa using hi
    subst this
    exact (At.new w [.int .u64 x] t).cell 0 rfl⟩
theorem lsk_new2 (w : World) (x y : Int) (t : TypeId) : LsK .u64 (w.alloc (.cells #[.int .u64 x, .int .u64 y] t)) w.heap.size (some ⟨w.heap.size, 0, none⟩) [x, y] :=
  .inr ⟨0, rfl, fun i hi => by
    have : i < 2 := by simpa using hi
    match i, this with
    | 0, _ => exact (At.new w [.int .u64 x, .int .u64 y] t).cell 0 rfl
    | 1, _ => exact (At.new w [.int .u64 x, .int .u64 y] t).cell 1 rfl⟩
/-- Put of one number, of two. -/
theorem put_one (A : Option Addr) (m c : Nat) (ys : List Int) (x : Int) (n : Nat) (w : World) (t : TypeId) (hb : Src .u8 w A m c ys) (hx : 0 ≤ x ∧ x ≤ 18446744073709551615) (hm : m ≤ 1000000) (hn : (ys ++ nb x.toNat).length = n) (h0 : 0 < n) :
    Calls Try.prog 7 #[.slice A m c, .slice (some ⟨w.heap.size, 0, none⟩) 1 1] (w.alloc (.cells #[.int .u64 x] t)) (BytesOf (w.alloc (.cells #[.int .u64 x] t)) (ys ++ nb x.toNat) n) :=
  (put_any A m c ys w.heap.size 1 1 _ [x] _ (hb.kept (new_alloc (new_refl w) _)) (lsk_new w x t) rfl (by simpa using hx) hm (by decide)).mono fun e w' h => by
    have e1 : puts [x] = nb x.toNat := by simp [puts]
    rw [e1] at h
    exact h.bytes hn h0
theorem put_oneAt (A : Option Addr) (m c : Nat) (ys : List Int) (x : Int) (n : Nat) (w : World) (t : TypeId) (g : Nat) (hg : w.heap.size = g) (hb : Src .u8 w A m c ys) (hx : 0 ≤ x ∧ x ≤ 18446744073709551615) (hm : m ≤ 1000000) (hn : (ys ++ nb x.toNat).length = n) (h0 : 0 < n) :
    Calls Try.prog 7 #[.slice A m c, .slice (some ⟨g, 0, none⟩) 1 1] (w.alloc (.cells #[.int .u64 x] t)) (BytesOf (w.alloc (.cells #[.int .u64 x] t)) (ys ++ nb x.toNat) n) := by
  subst hg
  exact put_one A m c ys x n w t hb hx hm hn h0
theorem put_two (A : Option Addr) (m c : Nat) (ys : List Int) (x y : Int) (n : Nat) (w : World) (t : TypeId) (hb : Src .u8 w A m c ys) (hx : 0 ≤ x ∧ x ≤ 18446744073709551615) (hy : 0 ≤ y ∧ y ≤ 18446744073709551615) (hm : m ≤ 1000000) (hn : (ys ++ nb x.toNat ++ nb y.toNat).length = n) (h0 : 0 < n) :
    Calls Try.prog 7 #[.slice A m c, .slice (some ⟨w.heap.size, 0, none⟩) 2 2] (w.alloc (.cells #[.int .u64 x, .int .u64 y] t)) (BytesOf (w.alloc (.cells #[.int .u64 x, .int .u64 y] t)) (ys ++ nb x.toNat ++ nb y.toNat) n) :=
  (put_any A m c ys w.heap.size 2 2 _ [x, y] _ (hb.kept (new_alloc (new_refl w) _)) (lsk_new2 w x y t) rfl (by simp; exact ⟨hx, hy⟩) hm (by decide)).mono fun e w' h => by
    have e1 : ys ++ puts [x, y] = ys ++ nb x.toNat ++ nb y.toNat := by simp [puts]
    rw [e1] at h
    exact h.bytes hn h0
theorem put_twoAt (A : Option Addr) (m c : Nat) (ys : List Int) (x y : Int) (n : Nat) (w : World) (t : TypeId) (g : Nat) (hg : w.heap.size = g) (hb : Src .u8 w A m c ys) (hx : 0 ≤ x ∧ x ≤ 18446744073709551615) (hy : 0 ≤ y ∧ y ≤ 18446744073709551615) (hm : m ≤ 1000000) (hn : (ys ++ nb x.toNat ++ nb y.toNat).length = n) (h0 : 0 < n) :
    Calls Try.prog 7 #[.slice A m c, .slice (some ⟨g, 0, none⟩) 2 2] (w.alloc (.cells #[.int .u64 x, .int .u64 y] t)) (BytesOf (w.alloc (.cells #[.int .u64 x, .int .u64 y] t)) (ys ++ nb x.toNat ++ nb y.toNat) n) := by
  subst hg
  exact put_two A m c ys x y n w t hb hx hy hm hn h0
theorem refPut7_one (A : Option Addr) (m c : Nat) (ys : List Int) (x : Int) (n : Nat) (w : World) (hb : Src .u8 w A m c ys) (hx : 0 ≤ x ∧ x ≤ 18446744073709551615) (hm : m ≤ 1000000) (hn : (ys ++ nb x.toNat).length = n) (h0 : 0 < n) :
    Calls Try.prog 8 #[.slice A m c, .int .u64 x] w (BytesOf w (ys ++ nb x.toNat) n) :=
  (refPut7_any A m c ys x w hb hx.1 hx.2 hm).mono fun e w' h => h.bytes hn h0

theorem putInt_any (A : Option Addr) (m c : Nat) (ys : List Int) (x : Int) (n : Nat) (w : World) (hb : Src .u8 w A m c ys) (hx : -9223372036854775808 ≤ x ∧ x ≤ 9223372036854775807) (hm : m ≤ 1000000) (hn : (ys ++ nb (zz x).toNat).length = n) (h0 : 0 < n) :
    Calls Try.prog 9 #[.slice A m c, .int .i64 x] w (BytesOf w (ys ++ nb (zz x).toNat) n) := by
  have hz := Lib.hid (zz_bd hx)
  have HB := Lib.hid hb
  have HN := Lib.hid hn
  clear hb hn
  go_enter Try.func9, Try.ntmps9
  go_wp2_with (first
    | (go_at_call 27; refine (unsign_any _ _ hx).mono ?_; rintro e w' ⟨rfl, rfl⟩)
    | (go_at_call 7; refine (put_one A m c ys (zz x) n w _ HB.out hz.out hm HN.out h0).mono ?_; rintro e w1 ⟨g1, c1, rfl, O1, B1⟩))
  go_ret
  exact ⟨g1, c1, rfl, O1.mono (by simp), new_then (new_alloc (new_refl w) _) B1⟩

theorem putText_any (A : Option Addr) (m c : Nat) (ys : List Int) (s : ByteArray) (n : Nat) (w : World) (hb : Src .u8 w A m c ys) (hs : s.size ≤ 1000000) (hm : m ≤ 1000000) (hn : (ys ++ nb s.size ++ sb s).length = n) (h0 : 0 < n) :
    Calls Try.prog 11 #[.slice A m c, .string s] w (BytesOf w (ys ++ nb s.size ++ sb s) n) := by
  have HB := Lib.hid hb
  have HN := Lib.hid hn
  have h1 := (nb_ten (x := s.size) (by omega)).1
  have HY : Hid ((ys ++ nb s.size).length + s.size ≤ 1000000000) := Lib.hid (by have := hb.1; rw [List.length_append]; omega)
  have HE : Hid (((s.size : Int)).toNat = s.size) := Lib.hid (by simp)
  obtain ⟨n1, hn1⟩ : ∃ n1, (ys ++ nb s.size).length = n1 := ⟨_, rfl⟩
  have hp : 0 < n1 := by rw [← hn1, List.length_append]; have := nb_pos s.size; omega
  have HN1 := Lib.hid hn1
  clear hb hn hn1
  have hx : (0 : Int) ≤ (s.size : Int) ∧ (s.size : Int) ≤ 18446744073709551615 := by omega
  go_enter Try.func11, Try.ntmps11
  go_wp2_with (first
    | (go_at_call 7; refine (put_one A m c ys (s.size : Int) n1 w _ HB.out hx hm (by rw [HE.out]; exact HN1.out) hp).mono ?_; rw [HE.out]; rintro e w1 ⟨g1, c1, rfl, O1, B1⟩; have hs1 := B1.size; rw [alloc_size] at hs1)
    | (at_builtin; refine wp_strB (by rfl) _ _ (by rfl) w.heap.size _ (ys ++ nb s.size) s (by rfl) (by rfl) (O1.mono (by simp)) HY.out (by omega) ?_; intro v2 w2 O2 G2))
  go_ret
  have O3 := OwnK.some O2 HN.out h0
  obtain ⟨g2, c2, rfl, _, _⟩ := O3
  exact ⟨g2, c2, rfl, O2, (new_then (new_alloc (new_refl w) _) B1).trans (below_push (O1.mono (by simp)) G2 (by omega))⟩

theorem refPutText7_any (A : Option Addr) (m c : Nat) (ys : List Int) (s : ByteArray) (n : Nat) (w : World) (hb : Src .u8 w A m c ys) (hs : s.size ≤ 1000000) (hm : m ≤ 1000000) (hn : (ys ++ nb s.size ++ sb s).length = n) (h0 : 0 < n) :
    Calls Try.prog 12 #[.slice A m c, .string s] w (BytesOf w (ys ++ nb s.size ++ sb s) n) := by
  have HB := Lib.hid hb
  have HN := Lib.hid hn
  have h1 := (nb_ten (x := s.size) (by omega)).1
  have HY : Hid ((ys ++ nb s.size).length + s.size ≤ 1000000000) := Lib.hid (by have := hb.1; rw [List.length_append]; omega)
  have HE : Hid (((s.size : Int)).toNat = s.size) := Lib.hid (by simp)
  obtain ⟨n1, hn1⟩ : ∃ n1, (ys ++ nb s.size).length = n1 := ⟨_, rfl⟩
  have hp : 0 < n1 := by rw [← hn1, List.length_append]; have := nb_pos s.size; omega
  have HN1 := Lib.hid hn1
  clear hb hn hn1
  have hx : (0 : Int) ≤ (s.size : Int) ∧ (s.size : Int) ≤ 18446744073709551615 := by omega
  go_enter Try.func12, Try.ntmps12
  go_wp2_with (first
    | (go_at_call 8; refine (refPut7_one A m c ys (s.size : Int) n1 w HB.out hx hm (by rw [HE.out]; exact HN1.out) hp).mono ?_; rw [HE.out]; rintro e w1 ⟨g1, c1, rfl, O1, B1⟩; have hs1 := B1.size)
    | (at_builtin; refine wp_strB (by rfl) _ _ (by rfl) w.heap.size _ (ys ++ nb s.size) s (by rfl) (by rfl) O1 HY.out (by omega) ?_; intro v2 w2 O2 G2))
  go_ret
  have O3 := OwnK.some O2 HN.out h0
  obtain ⟨g2, c2, rfl, _, _⟩ := O3
  exact ⟨g2, c2, rfl, O2, B1.trans (below_push O1 G2 (by omega))⟩
end Go.Proofs.Ythokfnbmjkekfaa
