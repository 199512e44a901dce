/- Package code: a reader in memory; what only reads it (Left, At, Err, peek). -/
import Derived.Test.YthokfnbmjkekfaaCodE
namespace Go.Proofs.Ythokfnbmjkekfaa
open Go.RowKit
set_option linter.unusedVariables false

/-- A reader at block b whose bytes lie in block g: those that were not read, how many were, the error. -/
def RdAt (w : World) (b g : Nat) (A : Option Addr) (n c : Nat) (bs : List Int) (at_ : Nat) (er : Int) : Prop :=
  Blk w b [.slice A n c, .int .i64 (at_ : Int), .int .i64 er] 58 ∧ LsK .u8 w g A bs ∧ bs.length = n ∧ n ≤ c ∧ (∀ x ∈ bs, 0 ≤ x ∧ x ≤ 255) ∧ at_ + n ≤ 1000000000 ∧ (bs = [] ∨ (g ≠ b ∧ g < w.heap.size))
def IsRd (w : World) (b g : Nat) (bs : List Int) (at_ : Nat) (er : Int) : Prop := ∃ A n c, RdAt w b g A n c bs at_ er
theorem LsK.out {F : Nat → Prop} {k : IntKind} {w w' : World} {g : Nat} {A : Option Addr} {zs : List Int} (h : LsK k w g A zs) (o : Out F w w') (hg : ¬ F g) : LsK k w' g A zs := by
  rcases h with h | ⟨off, rfl, h⟩
  · exact .inl h
  · refine .inr ⟨off, rfl, fun i hi => ?_⟩
    have hlt : g < w.heap.size := World.block_lt_of_cell? w _ (h i hi)
    rw [World.cell?_of_block (a := ⟨g, off + i, none⟩) (o.block g hlt hg)]
    exact h i hi
theorem LsK.outs {F : Nat → Prop} {k : IntKind} {w w' : World} {g : Nat} {A : Option Addr} {zs : List Int} (h : LsK k w g A zs) (o : Out F w w') (hg : zs ≠ [] → ¬ F g) : LsK k w' g A zs := by
  by_cases e : zs = []
  · exact .inl e
  · exact h.out o (hg e)
theorem LsK.drop {k : IntKind} {w : World} {g off : Nat} {zs : List Int} (h : LsK k w g (some ⟨g, off, none⟩) zs) (i : Nat) : LsK k w g (some ⟨g, off + i, none⟩) (zs.drop i) := by
  rcases h with h | ⟨off', ho, h⟩
  · exact .inl (by simp [h])
  · simp at ho
    subst ho
    refine .inr ⟨_, rfl, fun j hj => ?_⟩
    rw [List.length_drop] at hj
    have := h (i + j) (by omega)
    rw [List.getElem?_drop, Nat.add_assoc]
    exact this
theorem LsK.take {k : IntKind} {w : World} {g : Nat} {A : Option Addr} {zs : List Int} (h : LsK k w g A zs) (i : Nat) : LsK k w g A (zs.take i) := by
  rcases h with h | ⟨off, rfl, h⟩
  · exact .inl (by simp [h])
  · refine .inr ⟨_, rfl, fun j hj => ?_⟩
    rw [List.length_take] at hj
    rw [List.getElem?_take, if_pos (by omega)]
    exact h j (by omega)
theorem RdAt.out {F : Nat → Prop} {w w' : World} {b g : Nat} {A : Option Addr} {n c : Nat} {bs : List Int} {a : Nat} {er : Int} (h : RdAt w b g A n c bs a er) (o : Out F w w') (hb : ¬ F b) (hg : bs ≠ [] → ¬ F g) : RdAt w' b g A n c bs a er :=
  ⟨h.1.out o hb, h.2.1.outs o hg, h.2.2.1, h.2.2.2.1, h.2.2.2.2.1, h.2.2.2.2.2.1, h.2.2.2.2.2.2.imp (fun e => e) (fun ⟨e1, e2⟩ => ⟨e1, Nat.lt_of_lt_of_le e2 o.size⟩)⟩
theorem IsRd.out {F : Nat → Prop} {w w' : World} {b g : Nat} {bs : List Int} {a : Nat} {er : Int} (h : IsRd w b g bs a er) (o : Out F w w') (hb : ¬ F b) (hg : bs ≠ [] → ¬ F g) : IsRd w' b g bs a er := by
  obtain ⟨A, n, c, h⟩ := h
  exact ⟨A, n, c, h.out o hb hg⟩
theorem IsRd.kept {w w' : World} {b g : Nat} {bs : List Int} {a : Nat} {er : Int} (h : IsRd w b g bs a er) (o : Below w.heap.size w w') : IsRd w' b g bs a er := h.out (F := fun _ => False) (Out.of o _) (fun x => x) (fun _ x => x)
theorem IsRd.lt {w : World} {b g : Nat} {bs : List Int} {a : Nat} {er : Int} (h : IsRd w b g bs a er) : b < w.heap.size ∧ (bs = [] ∨ (g ≠ b ∧ g < w.heap.size)) := by
  obtain ⟨A, n, c, h⟩ := h
  exact ⟨h.1.lt, h.2.2.2.2.2.2⟩

theorem left_nil (w : World) : Calls Try.prog 22 #[.pointer none] w fun e w' => e = .returned (.int .i64 0) ∧ w = w' := by
  go_enter Try.func22, Try.ntmps22
  go_wp2
  go_ret
  exact ⟨rfl, rfl⟩
theorem rdat_nil (w : World) : Calls Try.prog 24 #[.pointer none] w fun e w' => e = .returned (.int .i64 0) ∧ w = w' := by
  go_enter Try.func24, Try.ntmps24
  go_wp2
  go_ret
  exact ⟨rfl, rfl⟩
theorem err_nil (w : World) : Calls Try.prog 25 #[.pointer none] w fun e w' => e = .returned (.int .i64 1) ∧ w = w' := by
  go_enter Try.func25, Try.ntmps25
  go_wp2
  go_ret
  exact ⟨rfl, rfl⟩
theorem left_at (b n c : Nat) (A : Option Addr) (u v : Value) (w : World) (hB : Blk w b [.slice A n c, u, v] 58) : Calls Try.prog 22 #[.pointer (some ⟨b, 0, none⟩)] w fun e w' => e = .returned (.int .i64 (n : Int)) ∧ w = w' := by
  have c0 := hB.cell 0 rfl
  go_enter Try.func22, Try.ntmps22
  go_wp2
  go_ret
  exact ⟨rfl, rfl⟩
theorem at_at (b : Nat) (z : Int) (u v : Value) (w : World) (hB : Blk w b [u, .int .i64 z, v] 58) : Calls Try.prog 24 #[.pointer (some ⟨b, 0, none⟩)] w fun e w' => e = .returned (.int .i64 z) ∧ w = w' := by
  have c0 := hB.cell 1 rfl
  go_enter Try.func24, Try.ntmps24
  go_wp2
  go_ret
  exact ⟨rfl, rfl⟩
theorem err_at (b : Nat) (z : Int) (u v : Value) (w : World) (hB : Blk w b [u, v, .int .i64 z] 58) : Calls Try.prog 25 #[.pointer (some ⟨b, 0, none⟩)] w fun e w' => e = .returned (.int .i64 z) ∧ w = w' := by
  have c0 := hB.cell 2 rfl
  go_enter Try.func25, Try.ntmps25
  go_wp2
  go_ret
  exact ⟨rfl, rfl⟩
theorem leftR (b g : Nat) (bs : List Int) (a L : Nat) (er : Int) (w : World) (h : IsRd w b g bs a er) (hL : bs.length = L) : Calls Try.prog 22 #[.pointer (some ⟨b, 0, none⟩)] w fun e w' => e = .returned (.int .i64 (L : Int)) ∧ w = w' := by
  obtain ⟨A, n, c, h⟩ := h
  obtain rfl : n = L := by rw [← h.2.2.1, hL]
  exact left_at b n c A _ _ w h.1
theorem atR (b g : Nat) (bs : List Int) (a : Nat) (er : Int) (w : World) (h : IsRd w b g bs a er) : Calls Try.prog 24 #[.pointer (some ⟨b, 0, none⟩)] w fun e w' => e = .returned (.int .i64 (a : Int)) ∧ w = w' := by
  obtain ⟨A, n, c, h⟩ := h
  exact at_at b _ _ _ w h.1
theorem errR (b g : Nat) (bs : List Int) (a : Nat) (er : Int) (w : World) (h : IsRd w b g bs a er) : Calls Try.prog 25 #[.pointer (some ⟨b, 0, none⟩)] w fun e w' => e = .returned (.int .i64 er) ∧ w = w' := by
  obtain ⟨A, n, c, h⟩ := h
  exact err_at b _ _ _ w h.1

/-- What peek tells. -/
def Peeks (w : World) (x : Int) (k : Nat) (er : Int) (e : Ending) (w' : World) : Prop := e = .returned (.tuple #[.int .u64 x, .int .i64 (k : Int), .int .i64 er]) ∧ w = w'
theorem peek_nil (most : Int) (w : World) : Calls Try.prog 30 #[.pointer none, .int .u64 most] w (Peeks w 0 0 1) := by
  go_enter Try.func30, Try.ntmps30
  go_wp2_with (first
    | (go_at_call 25; refine (err_nil _).mono ?_; rintro e w' ⟨rfl, rfl⟩))
  exact bodyPost_ret (v := .tuple #[.int .u64 0, .int .i64 0, .int .i64 1]) (by simp [results, Try.results30, go_sem]) rfl ⟨rfl, rfl⟩
theorem peek_err (b g : Nat) (bs : List Int) (a : Nat) (er most : Int) (w : World) (h : IsRd w b g bs a er) (he : er ≠ 0) : Calls Try.prog 30 #[.pointer (some ⟨b, 0, none⟩), .int .u64 most] w (Peeks w 0 0 er) := by
  have e0 : (er != 0) = true := by simpa using he
  go_enter Try.func30, Try.ntmps30
  go_wp2_with (first
    | (go_at_call 25; refine (errR b g bs a er _ h).mono ?_; rintro e w' ⟨rfl, rfl⟩))
  exact bodyPost_ret (v := .tuple #[.int .u64 0, .int .i64 0, .int .i64 er]) (by simp [results, Try.results30, go_sem]) rfl ⟨rfl, rfl⟩
theorem peek_short (b g : Nat) (bs : List Int) (a : Nat) (most : Int) (w : World) (h : IsRd w b g bs a 0) (he : ext bs = 0) : Calls Try.prog 30 #[.pointer (some ⟨b, 0, none⟩), .int .u64 most] w (Peeks w 0 0 3) := by
  have HR := Lib.hid h
  obtain ⟨A, n, c, hB, hV, hn, _, _, hm, _⟩ := h
  have c0 := hB.cell 0 rfl
  have HV := Lib.hid hV
  have HN := Lib.hid hn
  have HE := Lib.hid he
  have hm' : n ≤ 1000000000 := by omega
  clear hB hV hn he hm
  go_enter Try.func30, Try.ntmps30
  go_wp2_with (first
    | (go_at_call 25; refine (errR b g bs a 0 _ HR.out).mono ?_; rintro e w' ⟨rfl, rfl⟩)
    | (go_at_call 33; refine (extent_any A g n c bs _ HV.out HN.out hm').mono ?_; rw [HE.out]; rintro e w' ⟨rfl, rfl⟩))
  exact bodyPost_ret (v := .tuple #[.int .u64 0, .int .i64 0, .int .i64 3]) (by simp [results, Try.results30, go_sem]) rfl ⟨rfl, rfl⟩
end Go.Proofs.Ythokfnbmjkekfaa
