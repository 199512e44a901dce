/- Package heap: Pop. -/
import Derived.Test.YtmdlbjeiokadaaaHeapE
namespace Go.Proofs.Ytmdlbjeiokadaaa
open Go.RowKit
set_option linter.unusedVariables false

/-- A block of four cells. -/
theorem Blk.four {w : World} {g : Nat} {a b c d : Value} {t : TypeId} (h : Blk w g [a, b, c, d] t) :
    w.cell? ⟨g, 0, none⟩ = some a ∧ w.cell? ⟨g, 1, none⟩ = some b ∧ w.cell? ⟨g, 2, none⟩ = some c ∧ w.cell? ⟨g, 3, none⟩ = some d ∧ w.frozen? ⟨g, 0, none⟩ = false ∧ w.frozen? ⟨g, 1, none⟩ = false ∧ w.frozen? ⟨g, 2, none⟩ = false ∧ w.frozen? ⟨g, 3, none⟩ = false :=
  ⟨h.cell 0 rfl, h.cell 1 rfl, h.cell 2 rfl, h.cell 3 rfl, h.frozen 0, h.frozen 1, h.frozen 2, h.frozen 3⟩
theorem below_four {w w1 : World} {o o2 : Obj} {u0 u1 u2 u3 : Value} (B1 : Below (w.alloc o).heap.size (w.alloc o) w1) :
    Below w.heap.size w (((((w1.setCell ⟨w.heap.size, 0, none⟩ u0).setCell ⟨w.heap.size, 1, none⟩ u1).setCell ⟨w.heap.size, 2, none⟩ u2).setCell ⟨w.heap.size, 3, none⟩ u3).alloc o2) :=
  (((((new_then (new_alloc (new_refl w) o) B1).setCell (p := ⟨w.heap.size, 0, none⟩) (Nat.le_refl _) _).setCell (p := ⟨w.heap.size, 1, none⟩) (Nat.le_refl _) _).setCell (p := ⟨w.heap.size, 2, none⟩) (Nat.le_refl _) _).setCell (p := ⟨w.heap.size, 3, none⟩) (Nat.le_refl _) _).alloc (by have := B1.size; simp [World.setCell] at this ⊢; omega) _

set_option maxRecDepth 100000 in
theorem pop_nilH (w : World) :
    Calls Try.prog 8 #[.pointer none] w fun e w' => e = .returned (.tuple #[noE, .bool false]) ∧ Below w.heap.size w w' := by
  go_enter Try.func8, Try.ntmps8
  go_wp2_with (first | (go_at_call 15; refine (peek_nilH _).mono ?_; rintro e w1 ⟨rfl, B1⟩; have R1 := (Blk.new w [.int .i64 0, .int .i64 0, .int .i64 0, .int .i64 0] 27).kept B1; have l1 := R1.lt; have n1 : ¬ w.heap.size = w1.heap.size := (by omega); obtain ⟨r0, r1, r2, r3, q0, q1, q2, q3⟩ := R1.four))
  exact bodyPost_ret (v := .tuple #[noE, .bool false]) (by simp [results, Try.results8, go_sem, *]) rfl ⟨rfl, below_four B1⟩
set_option maxRecDepth 100000 in
theorem pop_out (b c : Nat) (A : Option Addr) (w : World) (c0 : w.cell? ⟨b, 0, none⟩ = some (.slice A 0 c)) :
    Calls Try.prog 8 #[.pointer (some ⟨b, 0, none⟩)] w fun e w' => e = .returned (.tuple #[noE, .bool false]) ∧ Below w.heap.size w w' := by
  have C0 := cell_kept (new_alloc (new_refl w) (.cells #[.int .i64 0, .int .i64 0, .int .i64 0, .int .i64 0] 27)) c0
  clear c0
  go_enter Try.func8, Try.ntmps8
  go_wp2_with (first | (go_at_call 15; refine (peek_out b c A _ C0).mono ?_; rintro e w1 ⟨rfl, B1⟩; have R1 := (Blk.new w [.int .i64 0, .int .i64 0, .int .i64 0, .int .i64 0] 27).kept B1; have l1 := R1.lt; have n1 : ¬ w.heap.size = w1.heap.size := (by omega); obtain ⟨r0, r1, r2, r3, q0, q1, q2, q3⟩ := R1.four))
  exact bodyPost_ret (v := .tuple #[noE, .bool false]) (by simp [results, Try.results8, go_sem, *]) rfl ⟨rfl, below_four B1⟩

/-- The heap's own blocks. -/
def footH (b g : Nat) (k : Nat) : Prop := k = b ∨ k = g
/-- The row is cut to its first m. -/
theorem HF.cut {w : World} {b g n c m : Nat} {zs : List Wt} {p : Int} (h : HF w b g n c zs p) (hm : m ≤ zs.length) : HF (w.setCell ⟨b, 0, none⟩ (.slice (some ⟨g, 0, none⟩) m c)) b g m c (zs.take m) p := by
  obtain ⟨h1, h2, h3⟩ := h
  have o : Out (fun k => k = b) w (w.setCell ⟨b, 0, none⟩ (.slice (some ⟨g, 0, none⟩) m c)) := Out.set (p := ⟨b, 0, none⟩) (Out.refl (fun k => k = b) w) (.inl rfl) _
  exact ⟨h1.set 0 _, (h2.cut encW_is hm).out o (fun k e => by simp [Value.ownBlock] at e; subst e; exact h3), h3⟩
/-- Behind Pop: a heap of one less. -/
def PoppedH (w : World) (b g m c : Nat) (zs : List Wt) (p : Int) (e : Ending) (w' : World) : Prop :=
  e = .returned (.tuple #[aggE (nth zs 0).ev, .bool true]) ∧ ∃ zs', HF w' b g m c zs' p ∧ HeapAt zs' ∧ zs'.Perm ((swq zs 0 m).take m) ∧ Out (footH b g) w w'
theorem popped_end {w w1 w2 w3 : World} {b g m c : Nat} {zs' : List Wt} {p : Int} {o o2 : Obj} {u u0 u1 u2 u3 : Value} (B1 : Below (w.alloc o).heap.size (w.alloc o) w1) (o12 : Out (fun k => k = g) (w1.alloc o2) w2)
    (o23 : Out (fun k => k = g) (w2.setCell ⟨b, 0, none⟩ u) w3) (hg : g < w.heap.size) (hb : b < w.heap.size) (h3 : HF w3 b g m c zs' p) :
    HF ((((w3.setCell ⟨w.heap.size, 0, none⟩ u0).setCell ⟨w.heap.size, 1, none⟩ u1).setCell ⟨w.heap.size, 2, none⟩ u2).setCell ⟨w.heap.size, 3, none⟩ u3) b g m c zs' p ∧
    Out (footH b g) w ((((w3.setCell ⟨w.heap.size, 0, none⟩ u0).setCell ⟨w.heap.size, 1, none⟩ u1).setCell ⟨w.heap.size, 2, none⟩ u2).setCell ⟨w.heap.size, 3, none⟩ u3) := by
  have oz : ∀ (W : World) (F : Nat → Prop) (a : World), a.heap.size ≤ w.heap.size → Out F a W → Out F a ((((W.setCell ⟨w.heap.size, 0, none⟩ u0).setCell ⟨w.heap.size, 1, none⟩ u1).setCell ⟨w.heap.size, 2, none⟩ u2).setCell ⟨w.heap.size, 3, none⟩ u3) := fun W F a ha o =>
    Out.set (p := ⟨w.heap.size, 3, none⟩) (Out.set (p := ⟨w.heap.size, 2, none⟩) (Out.set (p := ⟨w.heap.size, 1, none⟩) (Out.set (p := ⟨w.heap.size, 0, none⟩) o (.inr ha) _) (.inr ha) _) (.inr ha) _) (.inr ha) _
  have oy : Out (fun k => k = w.heap.size) w3 ((((w3.setCell ⟨w.heap.size, 0, none⟩ u0).setCell ⟨w.heap.size, 1, none⟩ u1).setCell ⟨w.heap.size, 2, none⟩ u2).setCell ⟨w.heap.size, 3, none⟩ u3) :=
    Out.set (p := ⟨w.heap.size, 3, none⟩) (Out.set (p := ⟨w.heap.size, 2, none⟩) (Out.set (p := ⟨w.heap.size, 1, none⟩) (Out.set (p := ⟨w.heap.size, 0, none⟩) (Out.refl (fun k => k = w.heap.size) w3) (.inl rfl) _) (.inl rfl) _) (.inl rfl) _) (.inl rfl) _
  refine ⟨h3.out oy (by omega) (by omega), oz w3 (footH b g) w (Nat.le_refl _) ?_⟩
  have a1 : Out (footH b g) w (w1.alloc o2) := Out.alloc (Out.of (new_then (new_alloc (new_refl w) o) B1) _) _
  have a2 := a1.trans o12 (fun i _ e => .inr e)
  exact (Out.set (p := ⟨b, 0, none⟩) a2 (.inl (.inl rfl)) u).trans o23 (fun i _ e => .inr e)

set_option maxRecDepth 100000 in
set_option maxHeartbeats 1000000 in
theorem pop_raw (b g m c : Nat) (zs : List Wt) (p : Int) (w : World) (h : HF w b g (m + 1) c zs p) (hz : HeapAt zs) (hm : m < 1000000) :
    Calls Try.prog 8 #[.pointer (some ⟨b, 0, none⟩)] w (PoppedH w b g m c zs p) := by
  have hl := h.len
  obtain ⟨x, hx⟩ : ∃ x, nth zs 0 = x := ⟨_, rfl⟩
  have BA := new_alloc (new_refl w) (.cells #[.int .i64 0, .int .i64 0, .int .i64 0, .int .i64 0] 27)
  have HA := Lib.hid (h.kept BA)
  have F0 := Lib.hid (HA.out.five (i := 0) (by omega))
  rw [hx] at F0
  have HX := Lib.hid hx
  have HP := Lib.hid (pop_sink hz hl)
  have HL := Lib.hid hl
  have hlt := h.lt
  have hgb := h.2.2
  have nb : ¬ b = w.heap.size := by omega
  have ng : ¬ g = w.heap.size := by omega
  have m0 : (0 : Int) ≤ (m : Int) := by omega
  have m1 : (m : Int) ≤ 1000000 := by omega
  have m2 : m < m + 1 := by omega
  have m3 : 0 < m + 1 := by omega
  have hmc : m ≤ c := by have := h.2.1.len; omega
  have HC := Lib.hid (show m ≤ (swq zs 0 m).length by rw [swq_len]; omega)
  clear h hz hx hl
  go_enter Try.func8, Try.ntmps8
  go_wp2_with (first
    | (go_at_call 15; refine (peek_in b g (m + 1) c x _ HA.out.c0 m3 F0.out).mono ?_; rintro e w1 ⟨rfl, B1⟩; have R1 := (Blk.new w [.int .i64 0, .int .i64 0, .int .i64 0, .int .i64 0] 27).kept B1; have l1 := R1.lt; have n1 : ¬ w.heap.size = w1.heap.size := (by omega); have n2 : ¬ w1.heap.size = w.heap.size := (by omega); have n3 : ¬ b = w1.heap.size := (by omega); have H1 := HA.out.kept B1; have k1 := fun o => (H1.kept (new_alloc (new_refl w1) o)).c0)
    | (go_at_call 20; refine (swap_any b g (m + 1) c 0 m zs p _ (H1.kept (new_alloc (new_refl w1) _)) m3 m2).mono ?_; rintro e w2 ⟨rfl, H2, o2⟩; have k2 := H2.c0; have f2 := H2.1.frozen 0; have E2 := (Blk.new w1 [.int .i64 x.ev.a, .int .i64 x.ev.k, .int .i64 x.ev.f, .int .i64 x.ev.n] 27).out o2 (by omega); have R2 := (R1.alloc _).out o2 (by omega))
    | (go_at_call 21; refine (sink_any b g m c 0 _ p _ (H2.cut HC.out) (by omega) (by omega) HP.out).mono ?_; rintro e w3 ⟨rfl, zs3, s3, p3, H3, o3⟩; have E3 := (E2.far (p := ⟨b, 0, none⟩) (show w1.heap.size ≠ b by omega) _).out o3 (by omega); have R3 := (R2.far (p := ⟨b, 0, none⟩) (show w.heap.size ≠ b by omega) _).out o3 (by omega); obtain ⟨r0, r1, r2, r3, q0, q1, q2, q3⟩ := R3.four; obtain ⟨v0, v1, v2, v3, t0, t1, t2, t3⟩ := E3.four))
  have hx := HX.out
  subst hx
  obtain ⟨H4, o4⟩ := popped_end B1 o2 o3 hlt.2 hlt.1 H3
  exact bodyPost_ret (v := .tuple #[aggE (nth zs 0).ev, .bool true]) (by simp [results, Try.results8, go_sem, *]) rfl ⟨rfl, zs3, H4, sunk_heap s3, p3, o4⟩

/-- A heap at block b, its row at block g (if there is one), in which these wait, in this order, and so many were pushed. -/
def IsHeap (w : World) (b g : Nat) (L : List Wt) (p : Int) : Prop :=
  ((Blk w b [.slice none 0 0, .int .i64 p] 52 ∧ L = [] ∧ g < w.heap.size) ∨ ∃ n c zs, HF w b g n c zs p ∧ HeapAt zs ∧ zs.Perm L) ∧ Asc L ∧ (∀ y ∈ L, y.t < p) ∧ (L.length : Int) ≤ p ∧ p ≤ 1000000
theorem IsHeap.lt {w : World} {b g : Nat} {L : List Wt} {p : Int} (h : IsHeap w b g L p) : b < w.heap.size ∧ g < w.heap.size := by
  rcases h.1 with ⟨h, _, hg⟩ | ⟨n, c, zs, h, _⟩
  · exact ⟨h.lt, hg⟩
  · exact h.lt
theorem IsHeap.out {F : Nat → Prop} {w w' : World} {b g : Nat} {L : List Wt} {p : Int} (h : IsHeap w b g L p) (o : Out F w w') (hb : ¬ F b) (hg : ¬ F g) : IsHeap w' b g L p := by
  refine ⟨?_, h.2⟩
  rcases h.1 with ⟨hB, rfl, hgl⟩ | ⟨n, c, zs, h, h1, h2⟩
  · exact .inl ⟨hB.out o hb, rfl, Nat.lt_of_lt_of_le hgl o.size⟩
  · exact .inr ⟨n, c, zs, h.out o hb hg, h1, h2⟩
theorem IsHeap.kept {w w' : World} {b g : Nat} {L : List Wt} {p : Int} (h : IsHeap w b g L p) (o : Below w.heap.size w w') : IsHeap w' b g L p := h.out (F := fun _ => False) (Out.of o _) (fun x => x) (fun x => x)
/-- Its slice. -/
theorem IsHeap.slice {w : World} {b g : Nat} {L : List Wt} {p : Int} (h : IsHeap w b g L p) : ∃ A c, w.cell? ⟨b, 0, none⟩ = some (.slice A L.length c) := by
  rcases h.1 with ⟨hB, rfl, _⟩ | ⟨n, c, zs, h, _, h2⟩
  · exact ⟨_, _, hB.cell 0 rfl⟩
  · have := h.len
    rw [h2.length_eq] at this
    exact ⟨_, _, by rw [this]; exact h.c0⟩
/-- What a call that changes the heap leaves. -/
def HTurns (w : World) (b g : Nat) (v : Value) (L : List Wt) (p : Int) (e : Ending) (w' : World) : Prop :=
  ∃ g', e = .returned v ∧ IsHeap w' b g' L p ∧ (g' = g ∨ w.heap.size ≤ g') ∧ Out (footH b g) w w'
theorem newH (w : World) :
    Calls Try.prog 7 #[] w fun e w' => e = .returned (.pointer (some ⟨w.heap.size, 0, none⟩)) ∧ IsHeap w' w.heap.size w.heap.size [] 0 ∧ Below w.heap.size w w' :=
  (new_heap w).mono fun e w' ⟨he, hw⟩ => ⟨he, ⟨.inl ⟨by rw [hw]; exact Blk.new w [.slice none 0 0, .int .i64 0] _, rfl, by rw [hw]; simp⟩, List.Pairwise.nil, fun _ h => (by cases h), by simp, by omega⟩, by rw [hw]; exact new_alloc (new_refl w) _⟩
theorem lenH (b g N : Nat) (L : List Wt) (p : Int) (w : World) (h : IsHeap w b g L p) (hN : L.length = N) :
    Calls Try.prog 16 #[.pointer (some ⟨b, 0, none⟩)] w fun e w' => e = .returned (.int .i64 (N : Int)) ∧ w = w' := by
  obtain ⟨A, c, hc⟩ := h.slice
  rw [hN] at hc
  exact len_raw b N c A w hc
/-- What Peek and Pop tell. -/
def told : List Wt → Value
  | [] => .tuple #[noE, .bool false]
  | x :: _ => .tuple #[aggE x.ev, .bool true]
theorem peekH (b g : Nat) (L : List Wt) (p : Int) (w : World) (h : IsHeap w b g L p) :
    Calls Try.prog 15 #[.pointer (some ⟨b, 0, none⟩)] w fun e w' => e = .returned (told L) ∧ Below w.heap.size w w' := by
  cases L with
  | nil =>
    obtain ⟨A, c, hc⟩ := h.slice
    exact peek_out b c A w hc
  | cons x L =>
    rcases h.1 with ⟨_, h, _⟩ | ⟨n, c, zs, hh, h1, h2⟩
    · cases h
    · have hl := hh.len
      have hl2 := h2.length_eq
      simp at hl2
      have hf := heap_first h1 h2 h.2.1
      have := hh.five (i := 0) (by omega)
      rw [hf] at this
      exact peek_in b g n c x w hh.c0 (by omega) this
theorem popH_none (b g : Nat) (p : Int) (w : World) (h : IsHeap w b g [] p) :
    Calls Try.prog 8 #[.pointer (some ⟨b, 0, none⟩)] w fun e w' => e = .returned (.tuple #[noE, .bool false]) ∧ Below w.heap.size w w' := by
  obtain ⟨A, c, hc⟩ := h.slice
  exact pop_out b c A w hc
theorem popH_some (b g : Nat) (x : Wt) (L : List Wt) (p : Int) (w : World) (h : IsHeap w b g (x :: L) p) :
    Calls Try.prog 8 #[.pointer (some ⟨b, 0, none⟩)] w (HTurns w b g (.tuple #[aggE x.ev, .bool true]) L p) := by
  rcases h.1 with ⟨_, h, _⟩ | ⟨n, c, zs, hh, h1, h2⟩
  · cases h
  · have hl := hh.len
    have hl2 := h2.length_eq
    simp at hl2
    obtain ⟨_, ha, ht, hp, hq⟩ := h
    simp at hp
    obtain ⟨m, rfl⟩ : ∃ m, n = m + 1 := ⟨L.length, by omega⟩
    have hf := heap_first h1 h2 ha
    refine (pop_raw b g m c zs p w hh h1 (by omega)).mono fun e w' ⟨he, zs', h3, h4, h5, o⟩ => ⟨g, by rw [he, hf], ⟨.inr ⟨m, c, zs', h3, h4, h5.trans (pop_perm h1 h2 ha hl)⟩, (List.pairwise_cons.1 ha).2, fun y hy => ht y (List.mem_cons_of_mem _ hy), by omega, hq⟩, .inl rfl, o⟩
theorem pushH (b g : Nat) (x : Ev) (L : List Wt) (p : Int) (w : World) (h : IsHeap w b g L p) (hp : p < 1000000) :
    Calls Try.prog 12 #[.pointer (some ⟨b, 0, none⟩), aggE x] w (HTurns w b g (.tuple #[]) (ins L (x.wt p)) (p + 1)) := by
  obtain ⟨h0, ha, ht, hl, hq⟩ := h
  have asc : Asc (ins L (x.wt p)) := ins_asc ha (fun y hy => ht y hy)
  have trn : ∀ y ∈ ins L (x.wt p), y.t < p + 1 := by
    intro y hy
    rcases List.mem_cons.1 ((ins_perm L (x.wt p)).mem_iff.1 hy) with rfl | hy
    · show p < p + 1; omega
    · have := ht y hy; omega
  have len : ((ins L (x.wt p)).length : Int) ≤ p + 1 := by rw [ins_len]; omega
  rcases h0 with ⟨hb, rfl, hgl⟩ | ⟨n, c, zs, hh, h1, h2⟩
  · refine (push_raw b 0 (.slice none 0 0) [] p x w hb (OwnE.nil _ _ _ _ _) (fun g e => by simp [Value.ownBlock] at e) (fun j _ hj => by simp at hj) rfl (by omega) (by simpa using hl) hp).mono fun e w' ⟨he, g', c', zs', h3, h4, h5, hat, o⟩ => ?_
    refine ⟨g', he, ⟨.inr ⟨_, c', zs', h3, h4, h5.trans (ins_perm [] (x.wt p)).symm⟩, asc, trn, len, by omega⟩, hat.imp (fun e => by simp [Value.ownBlock] at e) id, o.mono fun k e => ?_⟩
    rcases e with e | e
    · exact .inl e
    · simp [Value.ownBlock] at e
  · have hln := hh.len
    have hl2 := h2.length_eq
    refine (push_raw b n _ zs p x w hh.1 hh.2.1 (fun g' e => by simp [Value.ownBlock] at e; subst e; exact hh.2.2) h1 hln (by omega) (by omega) hp).mono fun e w' ⟨he, g', c', zs', h3, h4, h5, hat, o⟩ => ?_
    have hperm : zs'.Perm (ins L (x.wt p)) := h5.trans (((List.perm_append_singleton _ _).trans (List.Perm.cons _ h2)).trans (ins_perm L _).symm)
    refine ⟨g', he, ⟨.inr ⟨_, c', zs', h3, h4, hperm⟩, asc, trn, len, by omega⟩, hat.imp (fun e => by simp [Value.ownBlock] at e; exact e.symm) id, o.mono fun k e => ?_⟩
    rcases e with e | e
    · exact .inl e
    · simp [Value.ownBlock] at e; exact .inr e.symm
end Go.Proofs.Ytmdlbjeiokadaaa
