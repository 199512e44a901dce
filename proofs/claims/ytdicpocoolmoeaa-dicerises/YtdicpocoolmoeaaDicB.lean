/- Package dice: draws in memory; New, Next, Hit, Used; the document's Draw; leatlaw08.works. -/
import Derived.Test.YtdicpocoolmoeaaDicA
import Derived.Test.YtdicpocoolmoeaaCodC
namespace Go.Proofs.Ytdicpocoolmoeaa
open Go.RowKit
set_option linter.unusedVariables false

/-- The function value that lets the draws go round, its variable at block p. -/
abbrev fRound (p : Nat) : Value := .func (.func 21) #[] #[.pointer (some ⟨p, 0, none⟩)]
/-- Dice at block b, k of whose draws were asked for. -/
def IsDice (w : World) (b : Nat) (ds : List Int) (k : Nat) : Prop :=
  ds.length ≤ 1000000 ∧ (∀ x ∈ ds, isU32 x) ∧ ((ds = [] ∧ Blk w b [.nilFunc, .int .i64 (k : Int)] 45) ∨
    (0 < ds.length ∧ ∃ p g c, Blk w b [fRound p, .int .i64 (k : Int)] 45 ∧ Blk w p [.slice (some ⟨g, 0, none⟩) ds.length c] 22 ∧ At w g (ds.map (Value.int .u32)) ∧ p ≠ b ∧ g ≠ b))
theorem At.outs {F : Nat → Prop} {w w' : World} {g : Nat} {vs : List Value} (h : At w g vs) (o : Out F w w') (hg : ¬ F g) : At w' g vs := by
  refine ⟨Nat.lt_of_lt_of_le h.1 o.size, fun i v hv => ?_⟩
  have h1 := h.2 i v hv
  have h2 := o.block g h.1 hg
  unfold World.cell? at h1 ⊢
  simpa only [h2] using h1
theorem IsDice.lt {w : World} {b k : Nat} {ds : List Int} (h : IsDice w b ds k) : b < w.heap.size := by
  obtain ⟨_, _, ⟨_, h⟩ | ⟨_, p, g, c, h, _⟩⟩ := h
  · exact h.lt
  · exact h.lt
theorem IsDice.u32 {w : World} {b k : Nat} {ds : List Int} (h : IsDice w b ds k) : ∀ x ∈ ds, isU32 x := h.2.1
theorem IsDice.kept {w w' : World} {b k : Nat} {ds : List Int} (h : IsDice w b ds k) (B : Below w.heap.size w w') : IsDice w' b ds k := by
  obtain ⟨h1, h2, ⟨e, h⟩ | ⟨e, p, g, c, h, hp, hg, n1, n2⟩⟩ := h
  · exact ⟨h1, h2, .inl ⟨e, h.kept B⟩⟩
  · exact ⟨h1, h2, .inr ⟨e, p, g, c, h.kept B, hp.kept B, hg.kept B, n1, n2⟩⟩
/-- A draw: the next one, and one more was asked for. -/
def Draws (w : World) (b : Nat) (v : Value) (ds : List Int) (k : Nat) (e : Ending) (w' : World) : Prop := e = .returned v ∧ IsDice w' b ds k ∧ Out (fun j => j = b) w w'
theorem nil_func_eq (w : World) : (binOp .eql 42 .nilFunc .nilFunc).run Try.prog w = .ok (.bool true) w := by kernel_rfl
theorem some_func_eq (w : World) (p : Nat) : (binOp .eql 42 (fRound p) .nilFunc).run Try.prog w = .ok (.bool false) w := by kernel_rfl

theorem next_nil (w : World) :
    Calls Try.prog 8 #[.pointer none] w fun e w' => e = .returned (.int .u32 4294967295) ∧ w = w' := by
  go_enter Try.func8, Try.ntmps8
  go_wp2_with fail
  go_ret
  exact ⟨rfl, rfl⟩
theorem next_any (b k : Nat) (ds : List Int) (w : World) (h : IsDice w b ds k) (hk : k ≤ 1000000) :
    Calls Try.prog 8 #[.pointer (some ⟨b, 0, none⟩)] w (Draws w b (.int .u32 (dr ds k)) ds (k + 1)) := by
  have hlt := h.lt
  obtain ⟨h1, h2, ⟨rfl, hb⟩ | ⟨hpos, p, g, c, hb, hp, hg, n1, n2⟩⟩ := h
  · have c0 := hb.cell 0 rfl
    have c1 := hb.cell 1 rfl
    have f1 := hb.frozen 1
    have hq := nil_func_eq
    have HB := Lib.hid hb
    clear hb
    go_enter Try.func8, Try.ntmps8
    go_wp2_with fail
    go_ret
    exact ⟨rfl, ⟨h1, h2, .inl ⟨rfl, HB.out.set 1 (.int .i64 ((k : Int) + 1))⟩⟩, Out.set (p := ⟨b, 1, none⟩) (Out.refl (fun j => j = b) w) (.inl rfl) _⟩
  · have c0 := hb.cell 0 rfl
    have c1 := hb.cell 1 rfl
    have f1 := hb.frozen 1
    have hq := fun w => some_func_eq w p
    have HB := Lib.hid hb
    have P1 : Hid (Blk (w.setCell ⟨b, 1, none⟩ (.int .i64 ((k : Int) + 1))) p [.slice (some ⟨g, 0, none⟩) ds.length c] 22) := Lib.hid (hp.far (p := ⟨b, 1, none⟩) n1 _)
    have G1 : Hid (At (w.setCell ⟨b, 1, none⟩ (.int .i64 ((k : Int) + 1))) g (ds.map (Value.int .u32))) := Lib.hid (hg.far (p := ⟨b, 1, none⟩) n2 _)
    clear hb hp hg
    go_enter Try.func8, Try.ntmps8
    go_wp2_with (go_at_call 21; refine (round1_any k p g _ c ds _ rfl hpos h1 (by omega) (P1.out.cell 0 rfl) G1.out).mono ?_; rintro e w1 ⟨rfl, m, rfl⟩)
    go_ret
    exact ⟨rfl, ⟨h1, h2, .inr ⟨hpos, p, g, c, (HB.out.set 1 (.int .i64 ((k : Int) + 1))).draw m, P1.out.draw m, G1.out.draw m, n1, n2⟩⟩, (Out.set (p := ⟨b, 1, none⟩) (Out.refl (fun j => j = b) w) (.inl rfl) _).draw m⟩
theorem hit_nil (s : Int) (w : World) :
    Calls Try.prog 10 #[.pointer none, .int .i64 s] w fun e w' => e = .returned (.bool false) ∧ w = w' := by
  go_enter Try.func10, Try.ntmps10
  go_wp2_with (go_at_call 8; refine (next_nil _).mono ?_; rintro e w' ⟨rfl, rfl⟩)
  go_ret
  exact ⟨rfl, rfl⟩
theorem hit_any (b k : Nat) (ds : List Int) (s : Int) (w : World) (h : IsDice w b ds k) (hk : k ≤ 1000000) :
    Calls Try.prog 10 #[.pointer (some ⟨b, 0, none⟩), .int .i64 s] w (Draws w b (.bool (hitB (dr ds k) s)) ds (k + 1)) := by
  have hx := dr_is h.u32 k
  have HD := Lib.hid h
  clear h
  generalize e : dr ds k = x at *
  have HE := Lib.hid e
  clear e
  go_enter Try.func10, Try.ntmps10
  go_wp2_with (first
    | (go_at_call 8; refine (next_any b k ds w HD.out hk).mono ?_; rw [HE.out]; rintro e w1 ⟨rfl, D1, o1⟩)
    | (go_at_call 19; refine (hits_any x s _ hx).mono ?_; rintro e w2 ⟨rfl, rfl⟩))
  go_ret
  exact ⟨rfl, D1, o1⟩
theorem used_nil (w : World) :
    Calls Try.prog 12 #[.pointer none] w fun e w' => e = .returned (.int .i64 0) ∧ w = w' := by
  go_enter Try.func12, Try.ntmps12
  go_wp2_with fail
  go_ret
  exact ⟨rfl, rfl⟩
theorem used_any (b k : Nat) (ds : List Int) (w : World) (h : IsDice w b ds k) :
    Calls Try.prog 12 #[.pointer (some ⟨b, 0, none⟩)] w fun e w' => e = .returned (.int .i64 (k : Int)) ∧ w = w' := by
  have c1 : w.cell? ⟨b, 1, none⟩ = some (.int .i64 (k : Int)) := by
    obtain ⟨_, _, ⟨_, h⟩ | ⟨_, p, g, c, h, _⟩⟩ := h
    · exact h.cell 1 rfl
    · exact h.cell 1 rfl
  clear h
  go_enter Try.func12, Try.ntmps12
  go_wp2_with fail
  go_ret
  exact ⟨rfl, rfl⟩

/-- What lets the draws go round. -/
def Rounds (w : World) (ds : List Int) (e : Ending) (w' : World) : Prop := (ds = [] ∧ e = .returned .nilFunc ∧ w = w') ∨
  (0 < ds.length ∧ ∃ p g c, e = .returned (fRound p) ∧ Blk w' p [.slice (some ⟨g, 0, none⟩) ds.length c] 22 ∧ At w' g (ds.map (Value.int .u32)) ∧ Below w.heap.size w w')
theorem round8_any (A : Option Addr) (m c : Nat) (ds : List Int) (w : World) (h : Src .u32 w A m c ds) (hm : m ≤ 1000000) :
    Calls Try.prog 18 #[.slice A m c] w (Rounds w ds) := by
  obtain ⟨rfl, h'⟩ := id h
  have HS := Lib.hid h
  clear h
  by_cases h0 : ds.length = 0
  · obtain rfl : ds = [] := List.eq_nil_of_length_eq_zero h0
    clear h' h0
    go_enter Try.func18, Try.ntmps18
    go_wp2_with fail
    go_ret
    exact .inl ⟨rfl, rfl, rfl⟩
  · rcases h' with ⟨_, h1, _⟩ | ⟨a, rfl, _⟩
    · exact absurd h1 h0
    · have hp : 0 < ds.length := by omega
      obtain ⟨n, hn⟩ : ∃ n, ds.length = n := ⟨_, rfl⟩
      rw [hn] at HS hp hm h0 ⊢
      have HN := Lib.hid hn
      clear hn
      go_enter Try.func18, Try.ntmps18
      go_wp2_with (first
        | (go_at_call 20; refine (cloneU_any a n c ds _ HS.out hm).mono ?_; rintro e w1 ⟨v1, rfl, O1, B1⟩; obtain ⟨g1, c1, rfl, hb1, hl1⟩ := OwnK.some O1 HN.out hp))
      go_ret
      refine .inr ⟨by rw [HN.out]; exact hp, w1.heap.size, g1, c1, rfl, ?_, (O1.alloc _).at_, new_alloc B1 _⟩
      rw [HN.out]
      exact Blk.new w1 [.slice (some ⟨g1, 0, none⟩) n c1] _
/-- Dice among the blocks that came since w. -/
def DIn (w : World) (b : Nat) (ds : List Int) (k : Nat) (wr : World) : Prop := IsDice wr b ds k ∧ w.heap.size ≤ b ∧ Below w.heap.size w wr
theorem DIn.kept {w wr w' : World} {b k : Nat} {ds : List Int} (h : DIn w b ds k wr) (B : Below wr.heap.size wr w') : DIn w b ds k w' := ⟨h.1.kept B, h.2.1, new_then h.2.2 B⟩
theorem DIn.from {a w wr : World} {b k : Nat} {ds : List Int} (h : DIn w b ds k wr) (B : Below a.heap.size a w) : DIn a b ds k wr := ⟨h.1, Nat.le_trans B.size h.2.1, new_then B h.2.2⟩
theorem DIn.turned {w wr w' : World} {b k k' : Nat} {ds : List Int} {v : Value} {e : Ending} (h : DIn w b ds k wr) (t : Draws wr b v ds k' e w') : e = .returned v ∧ DIn w b ds k' w' :=
  ⟨t.1, t.2.1, h.2.1, h.2.2.trans (t.2.2.below h.2.2.size (fun j hj => by subst hj; exact h.2.1))⟩
def NewD (w : World) (ds : List Int) (e : Ending) (w' : World) : Prop := ∃ b, e = .returned (.pointer (some ⟨b, 0, none⟩)) ∧ DIn w b ds 0 w'
theorem newD_any (A : Option Addr) (m c : Nat) (ds : List Int) (w : World) (h : Src .u32 w A m c ds) (hm : m ≤ 1000000) (hu : ∀ x ∈ ds, isU32 x) :
    Calls Try.prog 7 #[.slice A m c] w (NewD w ds) := by
  have HM := Lib.hid h.1
  have HS := Lib.hid h
  have HU := Lib.hid hu
  clear h hu
  go_enter Try.func7, Try.ntmps7
  go_wp2_with (first
    | (go_at_call 18; refine (round8_any A m c ds _ HS.out hm).mono ?_; rintro e w1 (⟨rfl, rfl, rfl⟩ | ⟨hp, p, g, c1, rfl, hP, hG, B1⟩)))
  · go_ret
    exact ⟨w.heap.size, rfl, ⟨by simp, HU.out, .inl ⟨rfl, Blk.new w [.nilFunc, .int .i64 0] _⟩⟩, Nat.le_refl _, new_alloc (new_refl w) _⟩
  · go_ret
    have l1 := hP.lt
    have l2 := hG.1
    exact ⟨w1.heap.size, rfl, ⟨by have := HM.out; omega, HU.out, .inr ⟨hp, p, g, c1, Blk.new w1 [fRound p, .int .i64 0] _, hP.alloc _, hG.alloc _, by omega, by omega⟩⟩, B1.size, new_alloc B1 _⟩
/-- Next and Hit of dice that were made since w. -/
def GivesD (w : World) (b : Nat) (v : Value) (ds : List Int) (k : Nat) (e : Ending) (w' : World) : Prop := e = .returned v ∧ DIn w b ds k w'
theorem DIn.next {w wr : World} {b k : Nat} {ds : List Int} (h : DIn w b ds k wr) (hk : k ≤ 1000000) :
    Calls Try.prog 8 #[.pointer (some ⟨b, 0, none⟩)] wr (GivesD w b (.int .u32 (dr ds k)) ds (k + 1)) :=
  (next_any b k ds wr h.1 hk).mono fun e w' t => h.turned t
theorem DIn.hit {w wr : World} {b k : Nat} {ds : List Int} (h : DIn w b ds k wr) (s : Int) (hk : k ≤ 1000000) :
    Calls Try.prog 10 #[.pointer (some ⟨b, 0, none⟩), .int .i64 s] wr (GivesD w b (.bool (hitB (dr ds k) s)) ds (k + 1)) :=
  (hit_any b k ds s wr h.1 hk).mono fun e w' t => h.turned t
theorem DIn.hitIs {w wr : World} {b k : Nat} {ds : List Int} {t : Bool} (h : DIn w b ds k wr) (s : Int) (hk : k ≤ 1000000) (ht : hitB (dr ds k) s = t) :
    Calls Try.prog 10 #[.pointer (some ⟨b, 0, none⟩), .int .i64 s] wr (GivesD w b (.bool t) ds (k + 1)) := by
  subst ht; exact h.hit s hk

/-- The document's n-th draw. -/
theorem refDraw8_any (g m c k : Nat) (A : Option Addr) (ds : List Int) (w : World) (h : LsK .u32 w g A ds) (hm : ds.length = m) (hm' : m ≤ 1000000) (hk : k ≤ 1000000000) :
    Calls Try.prog 9 #[.slice A m c, .int .i64 (k : Int)] w (Reads w (.int .u32 (dr ds k))) := by
  rcases h with rfl | ⟨off, rfl, hc⟩
  · obtain rfl : m = 0 := by simpa using hm.symm
    clear hm
    go_enter Try.func9, Try.ntmps9
    go_wp2_with fail
    go_ret
    exact ⟨rfl, 0, rfl⟩
  · by_cases h0 : m = 0
    · subst h0
      obtain rfl : ds = [] := List.eq_nil_of_length_eq_zero hm
      clear hm hc
      go_enter Try.func9, Try.ntmps9
      go_wp2_with fail
      go_ret
      exact ⟨rfl, 0, rfl⟩
    · have hlt : k % m < m := Nat.mod_lt _ (by omega)
      have c0 : w.cell? ⟨g, off + k % m, none⟩ = some (.int .u32 (dr ds k)) := by
        rw [hc _ (by omega), dr_some (by omega), hm]
      clear hc hm
      have em : (k : Int) % (m : Int) = ((k % m : Nat) : Int) := by omega
      have em' : ((k : Int).tmod (m : Int)) = ((k % m : Nat) : Int) := by rw [Int.tmod_eq_emod_of_nonneg (by omega)]; exact em
      have z0 : ¬ (m : Int) = 0 := by omega
      generalize k % m = j at *
      have j0 : (0 : Int) ≤ (j : Int) := by omega
      have j1 : (j : Int) < (m : Int) := by omega
      have jn : (j : Int).toNat = j := by omega
      go_enter Try.func9, Try.ntmps9
      go_wp2_with fail
      go_ret
      exact ⟨rfl, 0, rfl⟩
theorem src_new8 {k : IntKind} (w : World) (xs : List Int) (n c : Nat) (t : TypeId) (hn : xs.length = n) : Src k (w.alloc (.cells (xs.map (Value.int k)).toArray t)) (some ⟨w.heap.size, 0, none⟩) n c xs := by
  refine ⟨hn.symm, .inr ⟨_, rfl, fun j hj => ?_⟩⟩
  have := (At.new w (xs.map (Value.int k)) t).cell j (v := .int k (xs[j]?.getD 0)) (by simp [List.getElem?_map, List.getElem?_eq_getElem hj])
  unfold Addr.add
  split
  · simp_all
  · simpa using this
theorem works08_any (w : World) : Calls Try.prog 13 #[] w fun e w' => e = .returned (.bool true) ∧ Below w.heap.size w w' := by
  go_enter Try.func13, Try.ntmps13
  go_wp2_with (first
    | (go_at_call 7; refine (newD_any _ 2 2 [0, 2147483648] _ (src_new8 w [0, 2147483648] 2 2 _ rfl) (by decide) (by unfold isU32; decide)).mono ?_; rintro e w1 ⟨b, rfl, D1⟩; replace D1 := D1.from (new_alloc (new_refl w) _))
    | (go_at_call 10; have h := D3; clear h; refine (D3.hitIs (t := true) 1 (by decide) (by decide)).mono ?_; rintro e w4 ⟨rfl, D4⟩)
    | (go_at_call 10; have h := D2; clear h; refine (D2.hitIs (t := false) 1 (by decide) (by decide)).mono ?_; rintro e w3 ⟨rfl, D3⟩)
    | (go_at_call 10; refine (D1.hitIs (t := true) 1 (by decide) (by decide)).mono ?_; rintro e w2 ⟨rfl, D2⟩)
    | (go_at_call 12; refine (used_any b 3 _ _ D4.1).mono ?_; rintro e w5 ⟨rfl, rfl⟩))
  go_ret
  exact ⟨rfl, D4.2.2⟩
end Go.Proofs.Ytdicpocoolmoeaa
