/- Package option: Parse. -/
import Derived.Test.YtnkcnfkonifmhaaZOptS
import Derived.Test.YtnkcnfkonifmhaaZOptG
import Derived.WalkMore
namespace Go.Proofs.Ytnkcnfkonifmhaa
open Go.RowKit
set_option linter.unusedVariables false

/-- The options of bytes that came in. -/
def parA (bs : List Int) : List Opt × Int := if 40 < bs.length then ([], 4) else parO bs []
theorem WasAt.out {F : Nat → Prop} {w w' : World} {base p : Nat} {ks : List Int} (h : WasAt w base p ks) (o : Out F w w') (hF : ∀ g, TyAt w g 3 ∨ TyAt w g 111 → ¬ F g) : WasAt w' base p ks := by
  obtain ⟨vw, h1, h2, h3⟩ := h
  exact ⟨vw, h1.out o (hF _ (.inr ⟨_, h1⟩)), h2.out o (fun g e => hF g (.inl (own_ty h2 e))), h3⟩
structure ParAt (w wr : World) (rest : List Int) (g L : Nat) (A : Option Addr) (c : Nat) (vl : Value) (xs : List OC) (ks : List Int) (T : List Opt × Int) : Prop where
  src : LsK .u8 w g A rest
  len : rest.length = L
  cap : L ≤ c
  byt : bytS rest
  own : OwnO wr w.heap.size vl xs
  has : ∀ x ∈ xs, HasO wr x ∧ FarO wr x
  few : xs.length + L ≤ 40
  was : WasAt wr w.heap.size w.heap.size ks
  kks : KsOf (xs.map OC.o) ks
  par : parO rest (xs.map OC.o) = T
  low : Below w.heap.size w wr
/-- A byte is passed over. -/
theorem par_skip {w wr : World} {rest : List Int} {g L : Nat} {A A' : Option Addr} {c c' : Nat} {vl : Value} {xs : List OC} {ks : List Int} {T : List Opt × Int} (P : ParAt w wr rest g L A c vl xs ks T) (h0 : 0 < L) (h1 : bF rest 0 = 1) (hA : LsK .u8 w g A' (rest.drop 1)) (hc : L - 1 ≤ c') :
    ParAt w wr (rest.drop 1) g (L - 1) A' c' vl xs ks T :=
  ⟨hA, by rw [List.length_drop, P.len], hc, byt_drop P.byt 1, P.own, P.has, by have := P.few; omega, P.was, P.kks, by rw [← P.par, par_pass _ (by rw [P.len]; exact h0) h1], P.low⟩
theorem par_own {w wr w2 w4 : World} {rest : List Int} {g L : Nat} {A : Option Addr} {c : Nat} {vl : Value} {xs : List OC} {ks : List Int} {T : List Opt × Int} (P : ParAt w wr rest g L A c vl xs ks T) (B2 : Below wr.heap.size wr w2) (o3 : Out (WasF w2 w.heap.size) w2 w4) : OwnO w4 w.heap.size vl xs :=
  (P.own.kept B2).out o3 (fun j e => was_apart (own_tyO (P.own.kept B2) e))
/-- An option is read. -/
theorem par_next {w wr w2 w4 w6 : World} {rest : List Int} {g L s : Nat} {A A' : Option Addr} {c c' : Nat} {vl v6 : Value} {xs : List OC} {ks : List Int} {T : List Opt × Int} {x : OC} {o1 : Obj} (P : ParAt w wr rest g L A c vl xs ks T) (B2 : Below wr.heap.size wr w2) (H2 : HasO w2 x) (F2 : FarO w2 x)
    (o3 : Out (WasF w2 w.heap.size) w2 w4) (W4 : WasAt w4 w.heap.size w.heap.size (addO ks x.o.k)) (G6 : (w4.alloc o1).grownBy w6 vl.ownBlock) (O6 : OwnO w6 w.heap.size v6 (xs ++ [x])) (hs : 2 ≤ s) (hsL : s ≤ L) (hA : LsK .u8 w g A' (rest.drop s)) (hc : L - s ≤ c')
    (hx : optO (rest.take s) = x.o) (hgo : parO rest (xs.map OC.o) = parO (rest.drop s) (xs.map OC.o ++ [optO (rest.take s)])) :
    ParAt w w6 (rest.drop s) g (L - s) A' c' v6 (xs ++ [x]) (addO ks x.o.k) T := by
  have hbs : w.heap.size ≤ w2.heap.size := Nat.le_trans P.low.size B2.size
  have B4 : Below w.heap.size w2 w4 := was_below o3 hbs
  have O4 := par_own P B2 o3
  have q6 := out_pushE G6
  have ho : ∀ j, vl.ownBlock = some j → TyAt (w4.alloc o1) j 76 := fun j e => own_tyO (O4.alloc o1) e
  have hn : ∀ j, TyAt (w4.alloc o1) j 25 → ¬ vl.ownBlock = some j := fun j t e => absurd (ty_one t (ho j e)) (by decide)
  have step : ∀ y, HasO w2 y → FarO w2 y → HasO w6 y ∧ FarO w6 y := fun y h f => by
    obtain ⟨h4, f4⟩ := h.out f o3 (fun j t => was_apartN t)
    exact HasO.out (h4.kept (new_alloc (new_refl w4) o1)) (f4.kept (new_alloc (new_refl w4) o1)) q6 hn
  refine ⟨hA, by rw [List.length_drop, P.len], hc, byt_drop P.byt s, O6, ?_, ?_, ?_, ?_, ?_, ?_⟩
  · intro y hy
    rcases List.mem_append.1 hy with hy | hy
    · exact step y ((P.has y hy).1.kept B2) ((P.has y hy).2.kept B2)
    · rw [List.mem_singleton.1 hy]; exact step x H2 F2
  · have := P.few; rw [List.length_append, List.length_singleton]; omega
  · refine (W4.kept (new_alloc (new_refl w4) o1)).out q6 (fun j t e => ?_)
    rcases t with t | t
    · exact absurd (ty_one t (ho j e)) (by decide)
    · exact absurd (ty_one t (ho j e)) (by decide)
  · rw [List.map_append]; exact ks_more P.kks x.o
  · rw [← P.par, hgo, hx, List.map_append]; rfl
  · exact ((P.low.trans (B2.mono P.low.size)).trans B4).trans ((Below.alloc (Below.refl _ _) (Nat.le_trans hbs B4.size) o1).trans (below_pushE (O4.alloc o1) G6 (alloc_le (Nat.le_trans hbs B4.size) o1)))
def ParI12 (w : World) (g : Nat) (T : List Opt × Int) (gh : Nat) (vb vl : Value) (wr : World) : Prop :=
  ∃ (A : Option Addr) (L c : Nat) (rest : List Int) (xs : List OC) (ks : List Int), vb = .slice A L c ∧ L = gh ∧ ParAt w wr rest g L A c vl xs ks T
/-- Options that were read, and an error. -/
def ParTo12 (w : World) (T : List Opt × Int) (e : Ending) (w' : World) : Prop :=
  ∃ (A : Option Addr) (n c : Nat) (xs : List OC), e = .returned (.tuple #[.slice A n c, .int .i64 T.2]) ∧ OptsAt w' A n xs ∧ xs.map OC.o = T.1 ∧ n ≤ 40 ∧ n ≤ c ∧ Below w.heap.size w w'
/-- .. and they lie in blocks of options and of numbers. -/
def RowFar (w : World) (A : Option Addr) (xs : List OC) : Prop := xs = [] ∨ ∃ g off, A = some ⟨g, off, none⟩ ∧ TyAt w g 76
def ParFar (w : World) (T : List Opt × Int) (e : Ending) (w' : World) : Prop :=
  ∃ (A : Option Addr) (n c : Nat) (xs : List OC), e = .returned (.tuple #[.slice A n c, .int .i64 T.2]) ∧ OptsAt w' A n xs ∧ xs.map OC.o = T.1 ∧ n ≤ 40 ∧ n ≤ c ∧ Below w.heap.size w w' ∧ RowFar w' A xs ∧ ∀ x ∈ xs, FarO w' x
theorem ParFar.to12 {w w' : World} {T : List Opt × Int} {e : Ending} (h : ParFar w T e w') : ParTo12 w T e w' := by
  obtain ⟨A, n, c, xs, h1, h2, h3, h4, h5, h6, _⟩ := h
  exact ⟨A, n, c, xs, h1, h2, h3, h4, h5, h6⟩
theorem OptsAt.out {F : Nat → Prop} {w w' : World} {A : Option Addr} {n : Nat} {xs : List OC} (h : OptsAt w A n xs) (r : RowFar w A xs) (f : ∀ x ∈ xs, FarO w x) (o : Out F w w') (hN : ∀ g, TyAt w g 25 → ¬ F g) (hO : ∀ g, TyAt w g 76 → ¬ F g) : OptsAt w' A n xs := by
  refine ⟨?_, h.len, fun x hx => (HasO.out (h.has x hx) (f x hx) o hN).1⟩
  rcases r with rfl | ⟨g, off, e, t⟩
  · exact ⟨0, .inl rfl⟩
  · obtain ⟨g', l⟩ := h.ls
    refine ⟨g', ?_⟩
    rcases l with l | ⟨off', e', l⟩
    · exact .inl l
    · rw [e] at e'
      cases e'
      have hg : g < w.heap.size := by obtain ⟨cur, hb⟩ := t; exact hb.lt
      have ec : ∀ k, w'.cell? ⟨g, k, none⟩ = w.cell? ⟨g, k, none⟩ := fun k => World.cell?_of_block (a := ⟨g, k, none⟩) (o.block g hg (hO g t))
      refine .inr ⟨off, e, fun i hi => ?_⟩
      obtain ⟨h1, h2, h3⟩ := l i hi
      exact ⟨(ec _).trans h1, (ec _).trans h2, (ec _).trans h3⟩
theorem row_far {w : World} {base g n c : Nat} {xs : List OC} (h : OwnO w base (.slice (some ⟨g, 0, none⟩) n c) xs) : RowFar w (some ⟨g, 0, none⟩) xs := .inr ⟨g, 0, rfl, own_tyO h rfl⟩
theorem par_err {w w' : World} {T : List Opt × Int} {q : Int} (h : T = ([], q)) (B : Below w.heap.size w w') : ParFar w T (.returned (.tuple #[.slice none 0 0, .int .i64 q])) w' := by
  subst h
  exact ⟨none, 0, 0, [], rfl, opts_none _ _, rfl, by omega, Nat.le_refl _, B, .inl rfl, fun x hx => by cases hx⟩
theorem par_fin {w wr : World} {rest : List Int} {g L : Nat} {A : Option Addr} {c : Nat} {vl : Value} {xs : List OC} {ks : List Int} {T : List Opt × Int} (P : ParAt w wr rest g L A c vl xs ks T) (h : parO rest (xs.map OC.o) = (xs.map OC.o, 0)) : ParFar w T (.returned (.tuple #[vl, .int .i64 0])) wr := by
  have hT : T = (xs.map OC.o, 0) := by rw [← P.par, h]
  have hf := P.few
  subst hT
  rcases P.own.form with ⟨rfl, rfl⟩ | ⟨g, c', rfl⟩
  · exact ⟨none, 0, 0, [], rfl, opts_none _ _, rfl, by omega, Nat.le_refl _, P.low, .inl rfl, fun x hx => by cases hx⟩
  · exact ⟨_, _, _, xs, rfl, own_opts P.own (fun x hx => (P.has x hx).1), rfl, by omega, P.own.len.2, P.low, row_far P.own, fun x hx => (P.has x hx).2⟩
set_option maxRecDepth 100000 in
set_option maxHeartbeats 2000000 in
theorem parse12_far (A : Option Addr) (g L c : Nat) (bs : List Int) (w : World) (h : LsK .u8 w g A bs) (hL : bs.length = L) (hb : bytS bs) (hc : L ≤ c) (hL3 : L ≤ 1000000) :
    Calls Try.prog 30 #[.slice A L c] w (ParFar w (parA bs)) := by
  obtain ⟨T, hT⟩ : ∃ T, parA bs = T := ⟨_, rfl⟩
  rw [hT]
  by_cases h40 : 40 < L
  · have k0 : (40 : Int) < (L : Int) := by omega
    have HT : Hid (T = ([], 4)) := Lib.hid (by rw [← hT, parA, if_pos (by omega)])
    clear h hL hb hT
    go_enter Try.func30, Try.ntmps30
    go_wp2_with fail
    go_step3
    go_wp2_with fail
    go_ret2
    exact par_err HT.out (new_refl w)
  · have k0 : ¬ (40 : Int) < (L : Int) := by omega
    have HP : Hid (ParAt w (w.alloc (.cells #[.slice none 0 0] 111)) bs g L A c (.slice none 0 0) [] [] T) := Lib.hid ⟨h, hL, hc, hb, OwnE.nil _ _ _ _ _, fun x hx => (by cases hx), by simp; omega, was_new w, ks_nil, by rw [← hT, parA, if_neg (by omega)]; rfl, new_alloc (new_refl w) _⟩
    clear h hL hb hT
    go_enter Try.func30, Try.ntmps30
    go_wp2_with fail
    go_step3
    go_wp2_with (first
      | (go_at_call 50; refine (again_any _).mono ?_; rintro e w1 ⟨rfl, rfl⟩))
    go_step3
    go_wp2_with fail
    go_loopg [0, 4] L (fun gh vb vl wr => ParI12 w g T gh vb vl wr)
    case atStart => exact ⟨A, L, c, bs, [], [], rfl, rfl, HP.out⟩
    case round =>
      clear HP k0 h40 hc hL3
      obtain ⟨A, L, c, rest, xs, ks, rfl, rfl, P⟩ := hrel
      have HP := Lib.hid P
      have hfw := P.few
      by_cases hL0 : L = 0
      · subst hL0
        have HF := Lib.hid (par_fin P (by rw [List.eq_nil_of_length_eq_zero P.len, par_nil]))
        clear P
        go_wp2_with fail
        go_ret2
        exact HF.out
      · obtain ⟨off, rfl⟩ : ∃ off, A = some ⟨g, off, none⟩ := by
          rcases P.src with h | ⟨off, h, _⟩
          · have := P.len; rw [h] at this; simp at this; omega
          · exact ⟨off, h⟩
        have k0 : (0 : Int) < (L : Int) := by omega
        have HS := Lib.hid (P.src.kept P.low)
        have HLn := Lib.hid P.len
        have c0 := HS.out.at HLn.out (i := 0) (by omega)
        have b0 := bF_bd P.byt HLn.out (i := 0) (by omega)
        rw [Nat.add_zero] at c0
        obtain ⟨x0, hx0⟩ : ∃ x0, bF rest 0 = x0 := ⟨_, rfl⟩
        have HX0 := Lib.hid hx0
        rw [hx0] at c0 b0
        obtain ⟨b1, b2⟩ := b0
        clear P hx0
        by_cases e0 : x0 = 0
        · subst e0
          have HE := Lib.hid (par_end (bs := rest) (xs.map OC.o) (by rw [HLn.out]; omega) HX0.out)
          cases hz : rest.all (fun x => x == 0)
          · go_wp2_with (first
              | (go_at_call 51; refine (zeros_any g off L c rest _ HS.out HLn.out (by omega)).mono ?_; rw [hz]; rintro e w1 ⟨rfl, rfl⟩))
            go_ret2
            exact par_err (by rw [← HP.out.par, HE.out, hz]; rfl) HP.out.low
          · go_wp2_with (first
              | (go_at_call 51; refine (zeros_any g off L c rest _ HS.out HLn.out (by omega)).mono ?_; rw [hz]; rintro e w1 ⟨rfl, rfl⟩))
            go_ret2
            exact par_fin HP.out (by rw [HE.out, hz]; rfl)
        · have e0' : (x0 == 0) = false := by simp [e0]
          by_cases e1 : x0 = 1
          · subst e1
            by_cases hc1 : c = 1
            · have HN : Hid (ParAt w wr (rest.drop 1) g (L - 1) (some ⟨g, off, none⟩) 0 u4 xs ks T) := Lib.hid (par_skip HP.out (by omega) HX0.out (.inl (List.drop_eq_nil_of_le (by have := HP.out.cap; have := HLn.out; omega))) (by have := HP.out.cap; omega))
              go_wp2_with fail
              go_roundg (L - 1)
              case measure => omega
              case rel => exact ⟨_, _, _, _, xs, ks, rfl, rfl, HN.out⟩
            · have HN : Hid (ParAt w wr (rest.drop 1) g (L - 1) (some ⟨g, off + 1, none⟩) (c - 1) u4 xs ks T) := Lib.hid (par_skip HP.out (by omega) HX0.out (ls_drop HP.out.src 1) (by have := HP.out.cap; omega))
              have kc : (1 : Int) ≤ (c : Int) := by have := HP.out.cap; omega
              go_wp2_with fail
              go_roundg (L - 1)
              case measure => omega
              case rel => exact ⟨_, _, _, _, xs, ks, rfl, rfl, HN.out⟩
          · have e1' : (x0 == 1) = false := by simp [e1]
            by_cases hL1 : L < 2
            · have HE := Lib.hid (par_one (bs := rest) (xs.map OC.o) (by rw [HLn.out]; omega) (by rw [HX0.out]; exact e0) (by rw [HX0.out]; exact e1))
              go_wp2_with (first
                | (go_at_call 53; refine (extent_few _ L c _ hL1).mono ?_; rintro e w1 ⟨rfl, rfl⟩))
              go_ret2
              exact par_err (by rw [← HP.out.par, HE.out]) HP.out.low
            · have HEX := Lib.hid (extent12_any g off L c rest wr HS.out HLn.out HP.out.byt (by omega))
              have z1 := bF_bd HP.out.byt HLn.out (i := 1) (by omega)
              obtain ⟨z, hz⟩ : ∃ z, bF rest 1 = z := ⟨_, rfl⟩
              have HXE : Hid (ExtO rest = if z < 2 then (0, 5) else if (L : Int) < z then (0, 3) else (z, 0)) := Lib.hid (by rw [ExtO, HLn.out, if_neg hL1, hz])
              have HZ := Lib.hid hz
              rw [hz] at z1
              obtain ⟨z2, z3⟩ := z1
              clear hz
              by_cases hz2 : z < 2
              · have HE := Lib.hid (par_few (bs := rest) (xs.map OC.o) (by rw [HLn.out]; omega) (by rw [HX0.out]; exact e0) (by rw [HX0.out]; exact e1) (by rw [HZ.out]; exact hz2))
                rw [show ExtO rest = (0, 5) by rw [HXE.out, if_pos hz2]] at HEX
                go_wp2_with (first
                  | (go_at_call 53; refine HEX.out.mono ?_; rintro e w1 ⟨rfl, rfl⟩))
                go_ret2
                exact par_err (by rw [← HP.out.par, HE.out]) HP.out.low
              · by_cases hz4 : (L : Int) < z
                · have HE := Lib.hid (par_short (bs := rest) (xs.map OC.o) (by rw [HLn.out]; omega) (by rw [HX0.out]; exact e0) (by rw [HX0.out]; exact e1) (by rw [HZ.out]; exact hz2) (by rw [HZ.out, HLn.out]; exact hz4))
                  rw [show ExtO rest = (0, 3) by rw [HXE.out, if_neg hz2, if_pos hz4]] at HEX
                  go_wp2_with (first
                    | (go_at_call 53; refine HEX.out.mono ?_; rintro e w1 ⟨rfl, rfl⟩))
                  go_ret2
                  exact par_err (by rw [← HP.out.par, HE.out]) HP.out.low
                · obtain ⟨s, rfl⟩ : ∃ s : Nat, z = (s : Int) := ⟨z.toNat, by omega⟩
                  rw [show ExtO rest = ((s : Int), 0) by rw [HXE.out, if_neg hz2, if_neg hz4]] at HEX
                  have hs2 : 2 ≤ s := by omega
                  have hsL : s ≤ L := by omega
                  have hcap := HP.out.cap
                  have k3 : (0 : Int) ≤ (s : Int) := by omega
                  have k4 : (s : Int) ≤ (c : Int) := by omega
                  have k5 : (s : Int) ≤ (L : Int) := by omega
                  have htl : (rest.take s).length = s := by rw [List.length_take, HLn.out]; omega
                  have hk0 : bF (rest.take s) 0 = x0 := by rw [← HX0.out, bF, bF, List.getElem?_take, if_pos (by omega)]
                  have HRD := Lib.hid (read_any g off s c (rest.take s) wr (ls_take HS.out s) htl (byt_take HP.out.byt s) hs2 (by omega) (by omega))
                  rw [hk0] at HRD
                  have HPB : Hid ((badO x0 s || hadO (xs.map OC.o) x0) = true → parO rest (xs.map OC.o) = ([], 5)) := Lib.hid (fun h => par_bad _ (by rw [HLn.out]; omega) (by rw [HX0.out]; exact e0) (by rw [HX0.out]; exact e1) (by rw [HZ.out]; exact hz2) (by rw [HZ.out, HLn.out]; exact hz4) (by rw [HX0.out, HZ.out, Int.toNat_natCast]; exact h))
                  have HPG : Hid ((badO x0 s || hadO (xs.map OC.o) x0) = false → parO rest (xs.map OC.o) = parO (rest.drop s) (xs.map OC.o ++ [optO (rest.take s)])) := Lib.hid (fun h => by
                    have h' := par_go (bs := rest) (xs.map OC.o) (by rw [HLn.out]; omega) (by rw [HX0.out]; exact e0) (by rw [HX0.out]; exact e1) (by rw [HZ.out]; exact hz2) (by rw [HZ.out, HLn.out]; exact hz4) (by rw [HX0.out, HZ.out, Int.toNat_natCast]; exact h)
                    rwa [HZ.out, Int.toNat_natCast] at h')
                  have HOK : Hid ((optO (rest.take s)).k = x0) := Lib.hid (by rw [optO, hk0]; split <;> rfl)
                  obtain ⟨ys, hys⟩ : ∃ ys, rest.take s = ys := ⟨_, rfl⟩
                  rw [hys] at HRD HPG HOK
                  have HYS := Lib.hid hys
                  clear htl hk0 hys HXE hz2 hz4 z2 z3
                  cases hbad : badO x0 s
                  · rw [hbad] at HRD HPB HPG
                    have HRT : Hid (Calls Try.prog 54 #[.slice (some ⟨g, off, none⟩) s c] wr (ReadTo wr ys)) := Lib.hid HRD.out
                    unfold ReadTo at HRT
                    obtain ⟨o, ho⟩ : ∃ o, optO ys = o := ⟨_, rfl⟩
                    rw [ho] at HRT HPG HOK
                    have HOO : Hid (optO (rest.take s) = o) := Lib.hid (by rw [HYS.out]; exact ho)
                    obtain rfl : x0 = o.k := HOK.out.symm
                    have HKA := Lib.hid (HP.out.kks.1 o.k)
                    have hkl : ks.length ≤ 1000 := by have := HP.out.kks.2; rw [List.length_map] at this; omega
                    clear ho HRD HOK hbad
                    go_upto_region 16 with (first
                      | (go_at_call 53; refine HEX.out.mono ?_; rintro e w1 ⟨rfl, rfl⟩)
                      | (go_at_call 54; refine HRT.out.mono ?_; rintro e w2 ⟨A1, n1, c1, rfl, H1, F1, B1⟩))
                    have A3 := Blk.new w2 [.int .i64 o.k, .slice A1 n1 c1, .string o.s] 76
                    have M3 := new_alloc (new_refl w2) (.cells #[.int .i64 o.k, .slice A1 n1 c1, .string o.s] 76)
                    have B3 := new_then B1 M3
                    have H3 := Lib.hid (H1.kept M3)
                    have F3 := Lib.hid (F1.kept M3)
                    clear H1 F1 B1 M3
                    generalize w2.alloc (.cells #[.int .i64 o.k, .slice A1 n1 c1, .string o.s] 76) = W3 at *
                    generalize w2.heap.size = ob at *
                    have HA3 := Lib.hid A3
                    have a0 := A3.cell 0 rfl
                    have hbs : w.heap.size ≤ W3.heap.size := Nat.le_trans HP.out.low.size B3.size
                    have HW3 := Lib.hid (was_any w.heap.size w.heap.size ks o.k W3 (HP.out.was.kept B3) hbs hkl)
                    clear A3
                    cases hh : hadO (xs.map OC.o) o.k
                    · have HGO : Hid (parO rest (xs.map OC.o) = parO (rest.drop s) (xs.map OC.o ++ [optO (rest.take s)])) := Lib.hid (by rw [HOO.out]; exact HPG.out (by rw [hh]; rfl))
                      obtain ⟨n6, hn6⟩ : ∃ n6, xs.length + 1 = n6 := ⟨_, rfl⟩
                      have HN6 := Lib.hid hn6
                      have n6b : n6 ≤ 1000000000 := by omega
                      clear hn6 HPB HPG
                      go_upto_region 19 with (first
                        | (go_at_call 66; refine HW3.out.mono ?_; rintro e w4 ⟨he, W4, o4⟩; rw [HKA.out, hh] at he; subst he
                           have A4 := HA3.out.out o4 (was_apart ⟨_, HA3.out⟩)
                           have d0 := A4.cell 0 rfl
                           have d1 := A4.cell 1 rfl
                           have d2 := A4.cell 2 rfl
                           have O4 := par_own HP.out B3 o4
                           have hbs4 := Nat.le_trans hbs o4.size)
                        | (at_builtin; refine wp_pushE encO_is strO (by rfl) _ _ (by rfl) w.heap.size _ xs ⟨o, A1, n1, c1⟩ _ 1 (by rfl) (by rfl) (At.new w4 (encO ⟨o, A1, n1, c1⟩) _) (O4.alloc _) n6 HN6.out n6b (alloc_le hbs4 _) _ rfl ?_; intro g6 c6 w6 O6 G6 hat6 hlt6))
                      have HNX := Lib.hid (fun A' c' (hA : LsK .u8 w g A' (rest.drop s)) (hc : L - s ≤ c') => par_next HP.out B3 H3.out F3.out o4 W4 G6 O6 hs2 hsL hA hc HOO.out HGO.out)
                      clear d0 d1 d2 a0 c0 A4 O4 O6 G6 W4 o4
                      by_cases hcs : c = s
                      · have HD : Hid (LsK .u8 w g (some ⟨g, off, none⟩) (rest.drop s)) := Lib.hid (.inl (List.drop_eq_nil_of_le (by rw [HLn.out]; omega)))
                        have hls : L - s ≤ 0 := by omega
                        have hLs : L - s = 0 := by omega
                        have HNY := HNX.out _ 0 HD.out hls
                        rw [hLs] at HNY
                        have HNZ := Lib.hid HNY
                        clear HNY HNX hLs hls
                        subst hcs
                        go_wp2_with fail
                        go_roundg 0
                        case measure => omega
                        case rel => exact ⟨_, _, _, _, _, _, rfl, rfl, HNZ.out⟩
                      · have HD := Lib.hid (ls_drop HP.out.src s)
                        have hls : L - s ≤ c - s := by omega
                        go_wp2_with fail
                        go_roundg (L - s)
                        case measure => omega
                        case rel => exact ⟨_, _, _, _, _, _, rfl, rfl, HNX.out _ _ HD.out hls⟩
                    · have HTB : Hid (T = ([], 5)) := Lib.hid (by rw [← HP.out.par, HPB.out (by rw [hh]; rfl)])
                      go_wp2_with (first
                        | (go_at_call 66; refine HW3.out.mono ?_; rintro e w4 ⟨he, W4, o4⟩; rw [HKA.out, hh] at he; subst he))
                      go_ret2
                      exact par_err HTB.out ((new_then HP.out.low B3).trans (was_below o4 hbs))
                  · rw [hbad] at HRD
                    have HTB : Hid (T = ([], 5)) := Lib.hid (by rw [← HP.out.par, HPB.out (by rw [hbad]; rfl)])
                    unfold ReadAny at HRD
                    go_wp2_with (first
                      | (go_at_call 53; refine HEX.out.mono ?_; rintro e w1 ⟨rfl, rfl⟩)
                      | (go_at_call 54; refine HRD.out.mono ?_; rintro e w2 ⟨rfl, B2⟩))
                    go_ret2
                    exact par_err HTB.out (new_alloc (new_then HP.out.low B2) _)
theorem parse12_any (A : Option Addr) (g L c : Nat) (bs : List Int) (w : World) (h : LsK .u8 w g A bs) (hL : bs.length = L) (hb : bytS bs) (hc : L ≤ c) (hL3 : L ≤ 1000000) :
    Calls Try.prog 30 #[.slice A L c] w (ParTo12 w (parA bs)) := (parse12_far A g L c bs w h hL hb hc hL3).mono fun _ _ h => h.to12
end Go.Proofs.Ytnkcnfkonifmhaa
