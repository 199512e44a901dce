/- What both fill is the same; Sum of parts that lie anywhere; the first bytes of a list that came in, and its parts. -/
import Derived.Test.YtdmdmekplfaflaaSumF
import Derived.Test.YtdmdmekplfaflaaRowL
namespace Go.Proofs.Ytdmdmekplfaflaa
open Go.RowKit
set_option linter.unusedVariables false

theorem byt_row {k : Nat} {w : World} {a : Option Addr} {len cap : Nat} {zs : List Int} (h : IsRow .u8 w a len cap zs) : bytS (zs.take k) := fun x hx => by have := bounds_u8 (row_wf h k x hx); omega
theorem textNil (w : World) : (convert 22 9 (.slice none 0 0)).run Try.prog w = .ok (.string ByteArray.empty) w := run_convert_bytes_nil w _ _ elB.und (by kernel_rfl) 0 0 _ (by kernel_rfl)

/-- A list that is this text, and whether there is one. -/
def FlTo (w : World) (T : ByteArray) (q : Bool) (e : Ending) (w' : World) : Prop :=
  ∃ x, e = .returned (.tuple #[x, .bool q]) ∧ (∀ w2, Below w'.heap.size w' w2 → (convert 22 9 x).run Try.prog w2 = .ok (.string T) w2) ∧ Below w.heap.size w w'
theorem FillTo.fl {w w' : World} {zs : List Int} {n : Nat} {e : Ending} (h : FillTo w zs n e w') : FlTo w (strOfNums zs) true e w' := by
  obtain ⟨g, c, rfl, O, B⟩ := h
  exact ⟨_, rfl, fun w2 B2 => text_own (O.kept B2), B⟩
theorem fills_same (A : Option Addr) (n c : Nat) (ys : List Int) (a : Int) (w : World) (h : Src .u8 w A n c ys) (hl : ∃ g, LsK .u8 w g A ys) (hb : bytS ys) (hn : n ≤ 100000) (hc : n ≤ c) (hc2 : c ≤ 9223372036854775807) (ha : -9223372036854775808 ≤ a ∧ a ≤ 9223372036854775807) :
    ∃ T q, ∀ w', Below w.heap.size w w' → Calls Try.prog 10 #[.slice A n c, .int .i64 a] w' (FlTo w' T q) ∧ Calls Try.prog 11 #[.slice A n c, .int .i64 a] w' (FlTo w' T q) := by
  by_cases hm : mayS n a
  · obtain ⟨h0, h1, h2⟩ := hm
    obtain ⟨p, rfl⟩ : ∃ p : Nat, a = (p : Int) := ⟨a.toNat, by omega⟩
    obtain ⟨g, hl⟩ := hl
    have hlen := h.1
    rcases hl with rfl | ⟨off, rfl, _⟩
    · simp at hlen; omega
    · refine ⟨strOfNums (filS ys p), true, fun w' B => ⟨?_, ?_⟩⟩
      · exact (fill_yes _ n c p ys w' (h.kept B) hb hn (by omega) h1).mono fun e w2 h => h.fl
      · exact (refFill10_yes g off n c p ys w' (h.kept B) hb hn hc hc2 (by omega) h1).mono fun e w2 h => h.fl
  · refine ⟨ByteArray.empty, false, fun w' B => ⟨?_, ?_⟩⟩
    · refine (fill_no A n c a w' hn ha hm).mono ?_
      rintro e w2 ⟨rfl, rfl⟩
      exact ⟨_, rfl, fun w2 _ => textNil w2, new_refl _⟩
    · refine (refFill10_no A n c a w' hn ha hm).mono ?_
      rintro e w2 ⟨rfl, rfl⟩
      exact ⟨_, rfl, fun w2 _ => textNil w2, new_refl _⟩

/-- In block g lie L parts, whose checksum is s. -/
structure SumIs (L g : Nat) (w : World) (s : Int) : Prop where
  is : ∃ ps, Parts w g ps ∧ ps.length = L ∧ (allS ps).length ≤ 1000000 ∧ L ≤ 1000 ∧ ckS (allS ps) = s
theorem Parts.kept {w w' : World} {g : Nat} {ps : List Pt} (h : Parts w g ps) (B : Below w.heap.size w w') : Parts w' g ps := ⟨h.1.kept B, fun p hp => (h.2 p hp).kept B⟩
theorem SumIs.alloc {L g : Nat} {w : World} {s : Int} (h : SumIs L g w s) (o : Obj) : SumIs L g (w.alloc o) s := by
  obtain ⟨ps, h1, h2⟩ := h.is
  exact ⟨ps, h1.kept (new_alloc (new_refl w) o), h2⟩
theorem sumIs_any (L g c : Nat) (s : Int) (w : World) (h : SumIs L g w s) : Calls Try.prog 6 #[.slice (some ⟨g, 0, none⟩) L c] w fun e w' => e = .returned (.int .u16 s) ∧ w = w' := by
  obtain ⟨ps, h1, h2, h3, h4, rfl⟩ := h.is
  exact sumAll_any g ps L c w h1 h2 h3 h4
theorem PtAt.len {w : World} {p : Pt} (h : PtAt w p) {n : Nat} (hn : p.n ≤ n) : p.xs.length ≤ n := by rw [h.2.1]; exact hn
theorem sum_new {w : World} (ps : List Pt) {L g : Nat} (hg : w.heap.size = g) {s : Int} {t : TypeId} {vs : Array Value} (h : ∀ p ∈ ps, PtAt w p) (hv : (ps.map Pt.val).toArray = vs) (hL : ps.length = L) (hn : (allS ps).length ≤ 1000000) (hL1 : L ≤ 1000) (hs : ckS (allS ps) = s) : SumIs L g (w.alloc (.cells vs t)) s :=
  ⟨ps, parts_new h t hv hg, hL, hn, hL1, hs⟩

/-- The parts of a list that came in. -/
theorem ls_take {k : IntKind} {w : World} {g : Nat} {A : Option Addr} {zs : List Int} (h : LsK k w g A zs) (n : Nat) : LsK k w g A (zs.take n) := by
  rcases h with rfl | ⟨off, rfl, h⟩
  · exact .inl (by simp)
  · refine .inr ⟨off, rfl, fun i hi => ?_⟩
    rw [List.length_take] at hi
    rw [h i (by omega), List.getElem?_take, if_pos (by omega)]
theorem ls_drop {k : IntKind} {w : World} {g off : Nat} {zs : List Int} (h : LsK k w g (some ⟨g, off, none⟩) zs) (n : Nat) : LsK k w g (some ⟨g, off + n, none⟩) (zs.drop n) := by
  rcases h with rfl | ⟨off', e, h⟩
  · exact .inl (by simp)
  · cases e
    refine .inr ⟨off + n, rfl, fun i hi => ?_⟩
    rw [List.length_drop] at hi
    have := h (n + i) (by omega)
    rw [List.getElem?_drop, ← this, Nat.add_assoc]
theorem sum_swap {ds : List Int} {e : Nat} (he : e % 2 = 0) (hd : ds.length % 2 = 0) (hle : e ≤ ds.length) : ckS (ds.drop e ++ ds.take e) = ckS ds := by
  have e1 : smS 0 ds = smS 0 (ds.take e) + smS 0 (ds.drop e) := by
    have := sm_app 0 (ds.take e) (ds.drop e)
    rw [List.take_append_drop] at this
    rw [this, Nat.zero_add, List.length_take, Nat.min_eq_left hle, sm_ev he]
  have e2 : smS 0 (ds.drop e ++ ds.take e) = smS 0 (ds.drop e) + smS 0 (ds.take e) := by
    rw [sm_app, Nat.zero_add, List.length_drop, sm_ev (n := ds.length - e) (by omega)]
  rw [ckS, ckS, e1, e2, Int.add_comm]
theorem fil_zero {zs : List Int} {p : Nat} (h : p + 2 ≤ zs.length) (hp : p % 2 = 0) (hb : bytS zs) : ckS (filS zs p) = 0 := by rw [ckS, fil_full h hp hb]; rfl
/-- Where the rest of a list lies. -/
theorem ls_rest {w : World} {gl L cap k : Nat} {A : Option Addr} {ds : List Int} (h : LsK .u8 w gl A ds) (hl : ds.length = L) (hk : k ≤ L) (hc : L ≤ cap) {A1 : Option Addr} (hA : (if cap = k then A else Option.map (fun x => x.add k) A) = A1) : LsK .u8 w gl A1 (ds.drop k) := by
  by_cases h1 : cap = k
  · exact .inl (List.drop_eq_nil_of_le (by omega))
  · rw [if_neg h1] at hA
    subst hA
    rcases h with rfl | ⟨off, rfl, h⟩
    · exact .inl (by simp)
    · rw [Option.map_some, Go.WideShapes.add_plain]
      exact ls_drop (.inr ⟨off, rfl, h⟩) k
theorem parts_one {w : World} {gl L cap : Nat} {A : Option Addr} {ds : List Int} (h : LsK .u8 w gl A ds) (hl : ds.length = L) (hb : bytS ds) (hn : L ≤ 300) (w' : World) (g : Nat) (t : TypeId) (B : Below w.heap.size w w') (hg : w'.heap.size = g) :
    SumIs 1 g (w'.alloc (.cells #[.slice A L cap] t)) (ckS ds) :=
  sum_new [⟨A, L, cap, gl, ds⟩] hg (by simpa using ⟨h.kept B, hl, hb⟩) rfl rfl (by simp [allS]; omega) (by decide) (by simp [allS])
theorem parts_three {w : World} {gl L cap k : Nat} {A A1 : Option Addr} {ds : List Int} (h : LsK .u8 w gl A ds) (hl : ds.length = L) (hb : bytS ds) (hn : L ≤ 300) (hk : k ≤ L) (hc : L ≤ cap) (hA : (if cap = k then A else Option.map (fun x => x.add k) A) = A1) (w' : World) (g : Nat) (t : TypeId) (B : Below w.heap.size w w') (hg : w'.heap.size = g) :
    SumIs 3 g (w'.alloc (.cells #[.slice A k cap, .slice none 0 0, .slice A1 (L - k) (cap - k)] t)) (ckS ds) := by
  have p1 : PtAt w' ⟨A, k, cap, gl, ds.take k⟩ := ⟨(ls_take h k).kept B, by show (ds.take k).length = k; rw [List.length_take]; omega, byt_take hb k⟩
  have p2 : PtAt w' ⟨none, 0, 0, 0, []⟩ := ⟨.inl rfl, rfl, by intro x hx; cases hx⟩
  have p3 : PtAt w' ⟨A1, L - k, cap - k, gl, ds.drop k⟩ := ⟨(ls_rest h hl hk hc hA).kept B, by show (ds.drop k).length = L - k; rw [List.length_drop]; omega, byt_drop hb k⟩
  have e : allS [⟨A, k, cap, gl, ds.take k⟩, ⟨none, 0, 0, 0, []⟩, ⟨A1, L - k, cap - k, gl, ds.drop k⟩] = ds := by simp [allS]
  exact sum_new [⟨A, k, cap, gl, ds.take k⟩, ⟨none, 0, 0, 0, []⟩, ⟨A1, L - k, cap - k, gl, ds.drop k⟩] hg (by simpa using ⟨p1, p2, p3⟩) rfl rfl (by rw [e]; omega) (by decide) (by rw [e])
theorem parts_two {w : World} {gl L cap k : Nat} {A A1 : Option Addr} {ds : List Int} (h : LsK .u8 w gl A ds) (hl : ds.length = L) (hb : bytS ds) (hn : L ≤ 300) (hk : k ≤ L) (hc : L ≤ cap) (he : k % 2 = 0) (hL : L % 2 = 0) (hA : (if cap = k then A else Option.map (fun x => x.add k) A) = A1) (w' : World) (g : Nat) (t : TypeId) (B : Below w.heap.size w w') (hg : w'.heap.size = g) :
    SumIs 2 g (w'.alloc (.cells #[.slice A1 (L - k) (cap - k), .slice A k cap] t)) (ckS ds) := by
  have p1 : PtAt w' ⟨A, k, cap, gl, ds.take k⟩ := ⟨(ls_take h k).kept B, by show (ds.take k).length = k; rw [List.length_take]; omega, byt_take hb k⟩
  have p3 : PtAt w' ⟨A1, L - k, cap - k, gl, ds.drop k⟩ := ⟨(ls_rest h hl hk hc hA).kept B, by show (ds.drop k).length = L - k; rw [List.length_drop]; omega, byt_drop hb k⟩
  have e : allS [⟨A1, L - k, cap - k, gl, ds.drop k⟩, ⟨A, k, cap, gl, ds.take k⟩] = ds.drop k ++ ds.take k := by simp [allS]
  exact sum_new [⟨A1, L - k, cap - k, gl, ds.drop k⟩, ⟨A, k, cap, gl, ds.take k⟩] hg (by simpa using ⟨p3, p1⟩) rfl rfl (by rw [e, List.length_append, List.length_take, List.length_drop]; omega) (by decide) (by rw [e]; exact sum_swap he (by omega) (by omega))
end Go.Proofs.Ytdmdmekplfaflaa
