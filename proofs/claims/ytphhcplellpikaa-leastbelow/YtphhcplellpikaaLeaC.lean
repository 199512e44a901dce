/- Package least: Least. -/
import Derived.Test.YtphhcplellpikaaLeaB
import Derived.Deep.LoopGhost
import Derived.Deep.Light
import Derived.Deep.Onto
import Derived.Deep.RegionWith
namespace Go.Proofs.Ytphhcplellpikaa
open Go.RowKit
open Go.Sort (grow)
set_option linter.unusedVariables false

theorem least21_nil (now : Int) (w : World) : Calls Try.prog 8 #[.pointer none, .int .i64 now] w fun e w' => e = .returned (.tuple #[.int .i64 0, .bool false]) ∧ Below w.heap.size w w' := by
  go_enter Try.func8, Try.ntmps8
  go_wp2_with (go_at_call 10; refine (len21_nil _).mono ?_; rintro e w1 ⟨rfl, rfl⟩)
  exact bodyPost_ret (v := .tuple #[.int .i64 0, .bool false]) (by simp [results, Try.results8, go_sem]) rfl ⟨rfl, new_alloc (new_refl w) _⟩
theorem least21_none {base : Nat} {b : Nat} {W : Int} {V : Value} {w : World} (h : LF base w b W V []) (now : Int) :
    Calls Try.prog 8 #[.pointer (some ⟨b, 0, none⟩), .int .i64 now] w fun e w' => e = .returned (.tuple #[.int .i64 0, .bool false]) ∧ Below w.heap.size w w' := by
  have H := Lib.hid (h.kept (new_alloc (new_refl w) (.cells #[.pointer (some ⟨b, 0, none⟩)] 23)))
  clear h
  go_enter Try.func8, Try.ntmps8
  go_wp2_with (go_at_call 10; refine (len21_any H.out 0 rfl).mono ?_; rintro e w1 ⟨rfl, rfl⟩)
  exact bodyPost_ret (v := .tuple #[.int .i64 0, .bool false]) (by simp [results, Try.results8, go_sem]) rfl ⟨rfl, new_alloc (new_refl w) _⟩

/-- The world in which the search runs: all that it reads is there. -/
structure SrL (w : World) (b g n c pb fb : Nat) (f : Int) (zs : List Lc) : Prop where
  pb0 : w.cell? ⟨pb, 0, none⟩ = some (.pointer (some ⟨b, 0, none⟩))
  fb0 : w.cell? ⟨fb, 0, none⟩ = some (.int .i64 f)
  row : w.cell? ⟨b, 1, none⟩ = some (.slice (some ⟨g, 0, none⟩) (n + 1) c)
  each : ∀ i, i < n + 1 → TwoL w g i (nthC zs i)
theorem SrL.kept {w w' : World} {b g n c pb fb : Nat} {f : Int} {zs : List Lc} (h : SrL w b g n c pb fb f zs) (o : Below w.heap.size w w') : SrL w' b g n c pb fb f zs :=
  ⟨cell_kept o h.pb0, cell_kept o h.fb0, cell_kept o h.row, fun i hi => ⟨cell_kept o (h.each i hi).1, cell_kept o (h.each i hi).2⟩⟩
theorem grow_below (w : World) (q : Nat) (os : Array Obj) : Below w.heap.size w (grow (w.drewN q) os) := below_grown_sl _ w q os (Nat.le_refl _)
/-- What the search finds. -/
def FindL (n : Nat) (f : Int) (zs : List Lc) (w : World) (e : Ending) (w' : World) : Prop :=
  ∃ m : Nat, e = .returned (.int .i64 (m : Int)) ∧ m ≤ n ∧ (∀ i, i < m → (nthC zs i).a ≤ f) ∧ (m = n ∨ f < (nthC zs m).a) ∧ Below w.heap.size w w'
theorem search21_any {w : World} {b g n c pb fb : Nat} {f : Int} {zs : List Lc} (h : SrL w b g n c pb fb f zs) (hz : TmL zs) (hn : zs.length = n + 1) (hl : n ≤ 1000000) :
    Calls Try.prog 19 #[.int .i64 (n : Int), .func (.func 20) #[] #[.pointer (some ⟨pb, 0, none⟩), .pointer (some ⟨fb, 0, none⟩)]] w (FindL n f zs w) := by
  have eg : ∀ args w, (callFunc 20 args).run Try.prog w = .ok (.enter 20 args) w := enters_of Try.func20 (by kernel_rfl) rfl
  have hmono : ∀ i j, i ≤ j → j < n → decide (f < (nthC zs i).a) = true → decide (f < (nthC zs j).a) = true := by
    intro i j hij hj hp
    have := nthC_time hz hij (by omega)
    simp only [decide_eq_true_eq] at hp ⊢
    omega
  have hS := Any.sort_Search srchL 20 #[.pointer (some ⟨pb, 0, none⟩), .pointer (some ⟨fb, 0, none⟩)] n (fun i => decide (f < (nthC zs i).a)) w eg (by omega)
    (fun m os i hi => by
      have k := h.kept (grow_below w m os)
      refine (late21_any pb fb b g (n + 1) c i f (nthC zs i).a _ (by omega) k.pb0 k.fb0 k.row (k.each i (by omega)).1).mono ?_
      rintro e w' ⟨he, q, rfl⟩
      exact ⟨he, q, #[], by rw [Go.Sort.grow_empty]⟩) hmono
  obtain ⟨h1, h2, h3⟩ := count_mono (fun i => decide (f < (nthC zs i).a)) n hmono
  refine hS.mono ?_
  rintro e w' ⟨rfl, q, os, rfl⟩
  refine ⟨_, rfl, h1, fun i hi => ?_, ?_, grow_below w q os⟩
  · have := h2 i hi
    simp only [decide_eq_false_iff_not] at this
    omega
  · rcases h3 with h3 | h3
    · exact .inl h3
    · exact .inr (by simpa using h3)

/-- Behind Least: the number at m, which is the first one late enough, or the last one. -/
def LeastTo (n : Nat) (f : Int) (zs : List Lc) (w : World) (e : Ending) (w' : World) : Prop :=
  ∃ m : Nat, e = .returned (.tuple #[.int .i64 (nthC zs m).x, .bool true]) ∧ m ≤ n ∧ (∀ i, i < m → (nthC zs i).a ≤ f) ∧ (m = n ∨ f < (nthC zs m).a) ∧ Below w.heap.size w w'
set_option maxRecDepth 100000 in
set_option maxHeartbeats 1000000 in
theorem least21_some {base : Nat} {b n : Nat} {W : Int} {V : Value} {zs : List Lc} {w : World} (h : LF base w b W V zs) (hn : zs.length = n + 1) (hl : n ≤ 1000000) (hz : TmL zs) (hW : 0 ≤ W ∧ W ≤ 1125899906842624) (now : Int) :
    Calls Try.prog 8 #[.pointer (some ⟨b, 0, none⟩), .int .i64 now] w (LeastTo n (nrL now - W) zs w) := by
  obtain ⟨g, c, rfl⟩ : ∃ g c, V = .slice (some ⟨g, 0, none⟩) (n + 1) c := by
    rcases h.form with ⟨_, rfl⟩ | ⟨g, c, rfl⟩
    · simp at hn
    · exact ⟨g, c, by rw [hn]⟩
  have hq := nrL_bd now
  have CN := Lib.hid (fun w => counted21_any now w)
  obtain ⟨f, ef⟩ : ∃ f, nrL now - W = f := ⟨_, rfl⟩
  have SB : Hid (∀ w, Calls Try.prog 17 #[.int .i64 (nrL now), .int .i64 W] w fun e w' => e = .returned (.int .i64 f) ∧ w = w') := Lib.hid (fun w => by
    have := satSub_any (nrL now) W w (by omega) (by omega)
    rwa [sat64_mid _ (by omega) (by omega), ef] at this)
  have BA := new_alloc (new_refl w) (.cells #[.pointer (some ⟨b, 0, none⟩)] 23)
  have HA := Lib.hid (h.kept BA)
  have HP := Lib.hid (Blk.new w [.pointer (some ⟨b, 0, none⟩)] 23)
  have LA := Lib.hid BA
  have HZ := Lib.hid hz
  have HN := Lib.hid hn
  rw [ef]
  generalize nrL now = q at *
  clear h hz hn hq ef hW BA
  go_enter Try.func8, Try.ntmps8
  have e1 : ¬ ((n + 1 : Nat) : Int) = 0 := by omega
  have e2 : ¬ (n : Int) + 1 = 0 := by omega
  go_upto_region 3 with (go_at_call 10; refine (len21_any HA.out (n + 1) HN.out).mono ?_; rintro e w1 ⟨rfl, rfl⟩)
  generalize w.alloc (.cells #[.pointer (some ⟨b, 0, none⟩)] 23) = W1 at *
  obtain ⟨pb, hpb⟩ : ∃ pb, w.heap.size = pb := ⟨_, rfl⟩
  have HB := Lib.hid hpb
  rw [hpb] at HP ⊢
  clear hpb
  have c0 := HP.out.cell 0 rfl
  have c1 := HA.out.blk.cell 0 rfl
  go_cut [6] (fun v wx => v = .pointer (some ⟨W1.heap.size, 0, none⟩) ∧ wx = (W1.alloc (.cells #[.int .i64 f] 2)).drew)
  case first =>
    go_region_held3 (fun w' => w'.cell? ⟨pb, 0, none⟩ = some (.pointer (some ⟨b, 0, none⟩)) ∧ w'.cell? ⟨b, 0, none⟩ = some (.int .i64 W)) (first | go_keep)
      (first
        | (go_at_call 18; refine (CN.out _).mono ?_; rintro e w1 ⟨rfl, rfl⟩)
        | (go_at_call 17; refine (SB.out _).mono ?_; rintro e w2 ⟨rfl, rfl⟩))
    all_goals go_wp2_with fail
    all_goals go_meet
    all_goals exact ⟨rfl, rfl⟩
  case rest =>
    obtain ⟨rfl, rfl⟩ := hcut
    have B2 : Below W1.heap.size W1 (W1.alloc (.cells #[.int .i64 f] 2)).drew := new_drew (new_alloc (new_refl W1) _)
    have HL2 := Lib.hid (new_then LA.out B2)
    have H2 := HA.out.kept B2
    have P2 := HP.out.kept B2
    have F2 : Blk (W1.alloc (.cells #[.int .i64 f] 2)).drew W1.heap.size [.int .i64 f] 2 := (Blk.new W1 [.int .i64 f] 2).drew
    have S2 := Lib.hid (SrL.mk (P2.cell 0 rfl) (F2.cell 0 rfl) (H2.blk.cell 1 rfl) (fun i hi => own_two H2.own (i := i) (by rw [HN.out]; exact hi)))
    clear c0 c1 HA HP LA H2 P2 F2 B2 CN SB
    generalize (W1.alloc (.cells #[.int .i64 f] 2)).drew = W2 at *
    generalize W1.heap.size = fb at *
    have c0 := S2.out.pb0
    have c1 := S2.out.row
    have SE := Lib.hid (search21_any S2.out HZ.out HN.out hl)
    go_wp2_with (go_at_call 19; refine SE.out.mono ?_; rintro e w3 ⟨m, rfl, hm, h1, h2, B3⟩
                 have S3 := S2.out.kept B3
                 have d0 := S3.pb0
                 have d1 := S3.row
                 obtain ⟨_, t1⟩ := S3.each m (by omega)
                 have HR := Lib.hid (show (∀ i, i < m → (nthC zs i).a ≤ f) ∧ (m = n ∨ f < (nthC zs m).a) from ⟨h1, h2⟩)
                 have m0 : (0 : Int) ≤ (m : Int) := by omega
                 have m1 : (m : Int) < (n : Int) + 1 := by omega
                 have m2 : m < n + 1 := by omega
                 generalize hx : (nthC zs m).x = x at t1
                 have HX := Lib.hid hx
                 clear h1 h2 S3 hx)
    have hx := HX.out
    subst hx
    exact bodyPost_ret (v := .tuple #[.int .i64 (nthC zs m).x, .bool true]) (by simp [results, Try.results8, go_sem]) rfl ⟨m, rfl, hm, HR.out.1, HR.out.2, new_then HL2.out B3⟩
/-- Of those that are kept of a list: the least one of the list. -/
theorem least21_any {base : Nat} {b : Nat} {W : Int} {V : Value} {l : List Lc} {w : World} (h : LF base w b W V (kpL l)) (hl : l.length ≤ 1000000) (hp : 0 < l.length) (ht : TmL l) (hW : 0 ≤ W ∧ W ≤ 1125899906842624) (now : Int) :
    Calls Try.prog 8 #[.pointer (some ⟨b, 0, none⟩), .int .i64 now] w fun e w' => e = .returned (.tuple #[.int .i64 (lsL l (nrL now - W)), .bool true]) ∧ Below w.heap.size w w' := by
  obtain ⟨k, hk⟩ : ∃ k, l.length = k + 1 := ⟨l.length - 1, by omega⟩
  obtain ⟨n, hn, hnk⟩ := kpL_pos hk
  refine (least21_some h hn (by omega) (kpL_time l ht) hW now).mono ?_
  rintro e w' ⟨m, rfl, hm, h1, h2, B⟩
  exact ⟨by rw [lsL_kept ht hn hm h1 h2], B⟩
end Go.Proofs.Ytphhcplellpikaa
