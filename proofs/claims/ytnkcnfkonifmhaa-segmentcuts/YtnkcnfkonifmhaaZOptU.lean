/- The document's Parse of layer 12. -/
import Derived.Test.YtnkcnfkonifmhaaZOptT
namespace Go.Proofs.Ytnkcnfkonifmhaa
open Go.RowKit
set_option linter.unusedVariables false

structure RParAt (w wr : World) (bs : List Int) (L a : Nat) (vl : Value) (xs : List OC) (T : List Opt × Int) : Prop where
  own : OwnO wr w.heap.size vl xs
  has : ∀ x ∈ xs, HasO wr x ∧ FarO wr x
  le : a ≤ L
  few : xs.length + L ≤ 40 + a
  par : parO (bs.drop a) (xs.map OC.o) = T
  low : Below w.heap.size w wr
theorem rpar_skip {w wr : World} {bs : List Int} {L a : Nat} {vl : Value} {xs : List OC} {T : List Opt × Int} (P : RParAt w wr bs L a vl xs T) (hl : bs.length = L) (h0 : a < L) (h1 : bF (bs.drop a) 0 = 1) : RParAt w wr bs L (a + 1) vl xs T :=
  ⟨P.own, P.has, h0, by have := P.few; omega, by rw [← P.par, par_pass _ (by rw [List.length_drop]; omega) h1, List.drop_drop], P.low⟩
theorem rpar_next {w wr wx w6 : World} {bs : List Int} {L a s : Nat} {vl v6 : Value} {xs : List OC} {T : List Opt × Int} {x : OC} {o1 : Obj} (P : RParAt w wr bs L a vl xs T) (B : Below wr.heap.size wr wx) (H : HasO wx x) (F : FarO wx x) (G6 : (wx.alloc o1).grownBy w6 vl.ownBlock) (O6 : OwnO w6 w.heap.size v6 (xs ++ [x])) (hs : 2 ≤ s) (hsL : a + s ≤ L)
    (hx : optO ((bs.drop a).take s) = x.o) (hgo : parO (bs.drop a) (xs.map OC.o) = parO ((bs.drop a).drop s) (xs.map OC.o ++ [optO ((bs.drop a).take s)])) : RParAt w w6 bs L (a + s) v6 (xs ++ [x]) T := by
  have O4 := (P.own.kept B).alloc o1
  have q6 := out_pushE G6
  have ho : ∀ j, vl.ownBlock = some j → TyAt (wx.alloc o1) j 76 := fun j e => own_tyO O4 e
  have hn : ∀ j, TyAt (wx.alloc o1) j 25 → ¬ vl.ownBlock = some j := fun j t e => absurd (ty_one t (ho j e)) (by decide)
  have step : ∀ y, HasO wx y → FarO wx y → HasO w6 y ∧ FarO w6 y := fun y h f => HasO.out (h.kept (new_alloc (new_refl wx) o1)) (f.kept (new_alloc (new_refl wx) o1)) q6 hn
  have L1 := new_alloc (new_then P.low B) o1
  refine ⟨O6, ?_, hsL, ?_, ?_, L1.trans (below_pushE O4 G6 L1.size)⟩
  · intro y hy
    rcases List.mem_append.1 hy with hy | hy
    · exact step y ((P.has y hy).1.kept B) ((P.has y hy).2.kept B)
    · rw [List.mem_singleton.1 hy]; exact step x H F
  · have := P.few; rw [List.length_append, List.length_singleton]; omega
  · rw [← P.par, hgo, hx, List.map_append, List.drop_drop]; rfl
def RParI (w : World) (bs : List Int) (L : Nat) (T : List Opt × Int) (gh : Nat) (vl va : Value) (wr : World) : Prop :=
  ∃ (a : Nat) (xs : List OC), va = .int .i64 (a : Int) ∧ L - a = gh ∧ RParAt w wr bs L a vl xs T
theorem rpar_fin {w wr : World} {bs : List Int} {L a : Nat} {vl : Value} {xs : List OC} {T : List Opt × Int} (P : RParAt w wr bs L a vl xs T) (h : parO (bs.drop a) (xs.map OC.o) = (xs.map OC.o, 0)) : ParFar w T (.returned (.tuple #[vl, .int .i64 0])) wr := by
  have hT : T = (xs.map OC.o, 0) := by rw [← P.par, h]
  have hf := P.few
  have hl := P.le
  subst hT
  rcases P.own.form with ⟨rfl, rfl⟩ | ⟨g, c', rfl⟩
  · exact ⟨none, 0, 0, [], rfl, opts_none _ _, rfl, by omega, Nat.le_refl _, P.low, .inl rfl, fun x hx => by cases hx⟩
  · exact ⟨_, _, _, xs, rfl, own_opts P.own (fun x hx => (P.has x hx).1), rfl, by omega, P.own.len.2, P.low, row_far P.own, fun x hx => (P.has x hx).2⟩
def ZerJ (wr : World) (rest : List Int) (a m gh : Nat) (vk : Value) (wz : World) : Prop := ∃ j : Nat, vk = .int .i64 ((a + j : Nat) : Int) ∧ m - j = gh ∧ j ≤ m ∧ (rest.take j).all (fun x => x == 0) = true ∧ wr = wz
def NumJ (wr : World) (ob : Nat) (K : Int) (a2 Wd M : Nat) (ys : List Int) (gh : Nat) (vk : Value) (wz : World) : Prop :=
  ∃ (i kk : Nat) (v : Value), vk = .int .i64 (kk : Int) ∧ kk = a2 + i * Wd ∧ M - i = gh ∧ i ≤ M ∧ Grow wz wr.heap.size ob K ByteArray.empty (numsO Wd i ys) v ∧ Below wr.heap.size wr wz
theorem num_next12 {wo wr w1 w3 : World} {ob Wd i g n1 c1 : Nat} {K z : Int} {ys : List Int} {v : Value} (G : Grow wr wo.heap.size ob K ByteArray.empty (numsO Wd i ys) v) (B3 : Below wo.heap.size wo wr) (B : Below wr.heap.size wr w1) (hz : numF ((ys.drop (i * Wd)).take Wd) = z) (hob : wo.heap.size ≤ ob)
    (O : OwnN w3 wo.heap.size (.slice (some ⟨g, 0, none⟩) n1 c1) (numsO Wd i ys ++ [z])) (Gr : w1.grownBy w3 v.ownBlock) :
    Grow (w3.setCell ⟨ob, 1, none⟩ (.slice (some ⟨g, 0, none⟩) n1 c1)) wo.heap.size ob K ByteArray.empty (numsO Wd (i + 1) ys) (.slice (some ⟨g, 0, none⟩) n1 c1) ∧ Below wo.heap.size wo (w3.setCell ⟨ob, 1, none⟩ (.slice (some ⟨g, 0, none⟩) n1 c1)) := by
  obtain ⟨h1, h2⟩ := grow_fin G B O Gr
  rw [nums_more, hz]
  exact ⟨h1, B3.trans (gro_below h2 B3.size hob (Nat.le_refl _))⟩
theorem bF_drop (bs : List Int) (a i : Nat) : bF (bs.drop a) i = bF bs (a + i) := by rw [bF, bF, List.getElem?_drop]
set_option maxRecDepth 100000 in
set_option maxHeartbeats 2000000 in
theorem refParse12_far (A : Option Addr) (g L c : Nat) (bs : List Int) (w : World) (h : LsK .u8 w g A bs) (hL : bs.length = L) (hb : bytS bs) (hc : L ≤ c) (hL3 : L ≤ 1000000) :
    Calls Try.prog 33 #[.slice A L c] w (ParFar w (parA bs)) := by
  obtain ⟨T, hT⟩ : ∃ T, parA bs = T := ⟨_, rfl⟩
  rw [hT]
  by_cases h40 : 40 < L
  · have k0 : (40 : Int) < (L : Int) := by omega
    have HT : Hid (T = ([], 4)) := Lib.hid (by rw [← hT, parA, if_pos (by omega)])
    clear h hL hb hT
    go_enter Try.func33, Try.ntmps33
    go_wp2_with fail
    go_ret2
    exact par_err HT.out (new_refl w)
  · have k0 : ¬ (40 : Int) < (L : Int) := by omega
    have HP : Hid (RParAt w w bs L 0 (.slice none 0 0) [] T) := Lib.hid ⟨OwnE.nil _ _ _ _ _, fun x hx => (by cases hx), Nat.zero_le _, by simp; omega, by rw [← hT, parA, if_neg (by omega)]; rfl, new_refl w⟩
    have HS := Lib.hid h
    have HLn := Lib.hid hL
    have HB := Lib.hid hb
    clear h hL hb hT
    go_enter Try.func33, Try.ntmps33
    go_wp2_with fail
    go_loopg [4, 5] L (fun gh vl va wr => RParI w bs L T gh vl va wr)
    case atStart => exact ⟨0, [], rfl, rfl, HP.out⟩
    case round =>
      clear HP k0
      obtain ⟨a, xs, rfl, rfl, P⟩ := hrel
      have HP := Lib.hid P
      have hfw := P.few
      have hle := P.le
      by_cases hL0 : a = L
      · subst hL0
        have HF := Lib.hid (rpar_fin P (by rw [List.drop_of_length_le (by rw [HLn.out]; exact Nat.le_refl _), par_nil]))
        clear P
        go_wp2_with fail
        go_ret2
        exact HF.out
      · have hlt : a < L := by omega
        obtain ⟨off, rfl⟩ : ∃ off, A = some ⟨g, off, none⟩ := by
          rcases HS.out with h | ⟨off, h, _⟩
          · have := HLn.out; rw [h] at this; simp at this; omega
          · exact ⟨off, h⟩
        have k0 : (0 : Int) ≤ (a : Int) := by omega
        have k1 : (a : Int) < (L : Int) := by omega
        have HS1 := Lib.hid (HS.out.kept P.low)
        have c0 := HS1.out.at HLn.out hlt
        have b0 := bF_bd HB.out HLn.out hlt
        obtain ⟨x0, hx0⟩ : ∃ x0, bF bs a = x0 := ⟨_, rfl⟩
        have HX0 : Hid (bF (bs.drop a) 0 = x0) := Lib.hid (by rw [bF_drop, Nat.add_zero]; exact hx0)
        rw [hx0] at c0 b0
        obtain ⟨b1, b2⟩ := b0
        have HRL : Hid ((bs.drop a).length = L - a) := Lib.hid (by rw [List.length_drop, HLn.out])
        clear P hx0
        by_cases e0 : x0 = 0
        · subst e0
          have HE := Lib.hid (par_end (bs := bs.drop a) (xs.map OC.o) (by rw [HRL.out]; omega) HX0.out)
          go_wp2_with fail
          go_loopg [6] (L - a) (fun gh vk wz => ZerJ wr (bs.drop a) a (L - a) gh vk wz)
          case atStart => exact ⟨0, rfl, rfl, by omega, by simp, rfl⟩
          case round =>
            obtain ⟨j, rfl, rfl, hj, hz, rfl⟩ := hrel
            have HZ := Lib.hid hz
            clear hz c0
            obtain ⟨k, hk⟩ : ∃ k, a + j = k := ⟨_, rfl⟩
            rw [hk]
            by_cases hjl : j < L - a
            · have k2 : (0 : Int) ≤ (k : Int) := by omega
              have k3 : (k : Int) < (L : Int) := by omega
              have c1 := HS1.out.at HLn.out (i := k) (by omega)
              have HN := Lib.hid (all_step (bs := bs.drop a) (i := j) (by rw [HRL.out]; omega))
              obtain ⟨y, hy⟩ : ∃ y, bF bs k = y := ⟨_, rfl⟩
              have HY : Hid (bF (bs.drop a) j = y) := Lib.hid (by rw [bF_drop, hk]; exact hy)
              rw [hy] at c1
              clear hy
              by_cases ey : y = 0
              · subst ey
                have ef : Hid (((bs.drop a).take (j + 1)).all (fun x => x == 0) = true) := Lib.hid (by rw [HN.out, HZ.out, HY.out]; rfl)
                go_wp2_with fail
                go_roundg (L - a - (j + 1))
                case measure => omega
                case rel => exact ⟨j + 1, by rw [← hk]; go_num, rfl, by omega, ef.out, rfl⟩
              · have ey' : (y != 0) = true := by simp [ey]
                have ef : Hid ((bs.drop a).all (fun x => x == 0) = false) := Lib.hid (all_less (i := j + 1) (by rw [HN.out, HZ.out, HY.out]; simp [ey]))
                go_wp2_with fail
                go_ret2
                exact par_err (by rw [← HP.out.par, HE.out, ef.out]; rfl) HP.out.low
            · obtain rfl : k = L := by omega
              have ef : Hid ((bs.drop a).all (fun x => x == 0) = true) := Lib.hid (by have := HZ.out; rwa [List.take_of_length_le (by rw [HRL.out]; omega)] at this)
              go_wp2_with fail
              go_ret2
              exact rpar_fin HP.out (by rw [HE.out, ef.out]; rfl)
        · have e0' : (x0 == 0) = false := by simp [e0]
          by_cases e1 : x0 = 1
          · subst e1
            have HN := Lib.hid (rpar_skip HP.out HLn.out hlt HX0.out)
            go_wp2_with fail
            go_roundg (L - (a + 1))
            case measure => omega
            case rel => exact ⟨a + 1, xs, by go_num, rfl, HN.out⟩
          · have e1' : (x0 == 1) = false := by simp [e1]
            obtain ⟨a1, ha1⟩ : ∃ a1, a + 1 = a1 := ⟨_, rfl⟩
            have q1 : (a : Int) + 1 = (a1 : Int) := by omega
            have HA1 := Lib.hid ha1
            clear ha1
            by_cases hL1 : L ≤ a1
            · have HE := Lib.hid (par_one (bs := bs.drop a) (xs.map OC.o) (by rw [HRL.out]; have := HA1.out; omega) (by rw [HX0.out]; exact e0) (by rw [HX0.out]; exact e1))
              have k2 : (L : Int) ≤ (a1 : Int) := by omega
              go_wp2_with fail
              go_ret2
              exact par_err (by rw [← HP.out.par, HE.out]) HP.out.low
            · have hL2 : a1 < L := by omega
              have k2 : ¬ (L : Int) ≤ (a1 : Int) := by omega
              have k3 : (0 : Int) ≤ (a1 : Int) := by omega
              have k4 : (a1 : Int) < (L : Int) := by omega
              have hr2 : 2 ≤ L - a := by have := HA1.out; omega
              have c1 := HS1.out.at HLn.out hL2
              have z1 := bF_bd HB.out HLn.out hL2
              obtain ⟨z, hz⟩ : ∃ z, bF bs a1 = z := ⟨_, rfl⟩
              have HZ : Hid (bF (bs.drop a) 1 = z) := Lib.hid (by rw [bF_drop, HA1.out]; exact hz)
              rw [hz] at z1 c1
              obtain ⟨z2, z3⟩ := z1
              have ez : IntKind.i64.wrap z = z := by rw [IntKind.wrap_i64]; omega
              have ex : IntKind.i64.wrap x0 = x0 := by rw [IntKind.wrap_i64]; omega
              clear hz
              by_cases hz2 : z < 2
              · have HE := Lib.hid (par_few (bs := bs.drop a) (xs.map OC.o) (by rw [HRL.out]; exact hr2) (by rw [HX0.out]; exact e0) (by rw [HX0.out]; exact e1) (by rw [HZ.out]; exact hz2))
                go_wp2_with fail
                go_ret2
                exact par_err (by rw [← HP.out.par, HE.out]) HP.out.low
              · obtain ⟨s, rfl⟩ : ∃ s : Nat, z = (s : Int) := ⟨z.toNat, by omega⟩
                obtain ⟨an, has⟩ : ∃ an, a + s = an := ⟨_, rfl⟩
                have q2 : (a : Int) + (s : Int) = (an : Int) := by omega
                have HAS := Lib.hid has
                clear has
                by_cases hz4 : L < an
                · have HE := Lib.hid (par_short (bs := bs.drop a) (xs.map OC.o) (by rw [HRL.out]; exact hr2) (by rw [HX0.out]; exact e0) (by rw [HX0.out]; exact e1) (by rw [HZ.out]; exact hz2) (by rw [HZ.out, HRL.out]; have := HAS.out; omega))
                  have k5 : (L : Int) < (an : Int) := by omega
                  go_wp2_with fail
                  go_ret2
                  exact par_err (by rw [← HP.out.par, HE.out]) HP.out.low
                · have k5 : ¬ (L : Int) < (an : Int) := by omega
                  have hs2 : 2 ≤ s := by omega
                  have hz5 : ¬ (((bs.drop a).length : Nat) : Int) < bF (bs.drop a) 1 := by rw [HZ.out, HRL.out]; have := HAS.out; omega
                  have HPB : Hid ((badO x0 s || hadO (xs.map OC.o) x0) = true → T = ([], 5)) := Lib.hid (fun h => by rw [← HP.out.par]; exact par_bad _ (by rw [HRL.out]; exact hr2) (by rw [HX0.out]; exact e0) (by rw [HX0.out]; exact e1) (by rw [HZ.out]; exact hz2) hz5 (by rw [HX0.out, HZ.out, Int.toNat_natCast]; exact h))
                  have HPG : Hid ((badO x0 s || hadO (xs.map OC.o) x0) = false → parO (bs.drop a) (xs.map OC.o) = parO ((bs.drop a).drop s) (xs.map OC.o ++ [optO ((bs.drop a).take s)])) := Lib.hid (fun h => by
                    have h' := par_go (bs := bs.drop a) (xs.map OC.o) (by rw [HRL.out]; exact hr2) (by rw [HX0.out]; exact e0) (by rw [HX0.out]; exact e1) (by rw [HZ.out]; exact hz2) hz5 (by rw [HX0.out, HZ.out, Int.toNat_natCast]; exact h)
                    rwa [HZ.out, Int.toNat_natCast] at h')
                  clear hz5
                  obtain ⟨Wd, hWd⟩ : ∃ Wd, szO x0 = Wd := ⟨_, rfl⟩
                  have CS : Hid (∀ w, Calls Try.prog 44 #[.int .i64 x0] w fun e w' => e = .returned (.int .i64 (Wd : Int)) ∧ w = w') := Lib.hid (fun w => by have := refSize_any x0 w; rw [hWd] at this; exact this)
                  have HWd := Lib.hid hWd
                  have hs4 : Wd ≤ 4 := by rw [← hWd]; exact sz_four _
                  clear hWd
                  go_upto_region 24 with (first
                    | (go_at_call 44; refine (CS.out _).mono ?_; rintro e w1 ⟨rfl, rfl⟩))
                  have O1 := Blk.new wr [.int .i64 x0, .slice none 0 0, .string ⟨#[]⟩] 76
                  have B1 := new_alloc (new_refl wr) (.cells #[.int .i64 x0, .slice none 0 0, .string ⟨#[]⟩] 76)
                  generalize wr.alloc (.cells #[.int .i64 x0, .slice none 0 0, .string ⟨#[]⟩] 76) = W at *
                  generalize hob : wr.heap.size = ob at *
                  have HOB := Lib.hid hob
                  clear hob c0 c1
                  have o0 := O1.cell 0 rfl
                  obtain ⟨Al, nl, cl, rfl⟩ : ∃ Al nl cl, u4 = .slice Al nl cl := by
                    rcases HP.out.own.form with ⟨e, _⟩ | ⟨_, _, e⟩
                    · exact ⟨_, _, _, e⟩
                    · exact ⟨_, _, _, e⟩
                  have BW : Below wr.heap.size wr W := by rw [HOB.out]; exact B1
                  have HBW := Lib.hid BW
                  have hnl : nl ≤ 40 := by
                    have h := (own_opts HP.out.own (fun x hx => (HP.out.has x hx).1)).len
                    omega
                  have CH : Hid (∀ n, Calls Try.prog 43 #[.slice Al nl cl, .int .i64 x0] (W.drewN n) fun e w' => e = .returned (.bool (hadO (xs.map OC.o) x0)) ∧ W.drewN n = w') := Lib.hid (fun n => refHad_any Al nl cl xs x0 _ ((own_opts (HP.out.own.kept BW) (fun x hx => ((HP.out.has x hx).1.kept BW))).drew n) (by omega))
                  clear BW B1
                  obtain ⟨m, hm⟩ : ∃ m, s - 2 = m := ⟨_, rfl⟩
                  have q3 : (s : Int) - 2 = (m : Int) := by omega
                  have q4 : IntKind.i64.wrap (m : Int) = (m : Int) := by rw [IntKind.wrap_i64]; omega
                  have HM := Lib.hid hm
                  have HBd : Hid (badO x0 s = (decide (Wd ≠ 0) && (decide (m % Wd ≠ 0) || !mayO x0 (m / Wd)))) := Lib.hid (by rw [badO, hm, HWd.out, knO, HWd.out])
                  have w1 : (0 : Int) ≤ (m : Int) := by omega
                  clear hm
                  generalize hhd : hadO (xs.map OC.o) x0 = hd at *
                  have HHD := Lib.hid hhd
                  clear hhd
                  obtain ⟨B, hB⟩ : ∃ B, (badO x0 s || hd) = B := ⟨_, rfl⟩
                  rw [hB] at HPB HPG
                  have HBB := Lib.hid hB
                  clear hB
                  go_cut [95] (fun v wx => v = .bool B ∧ ∃ q, wx = W.drewN q)
                  case first =>
                    by_cases hW0 : Wd = 0
                    · subst hW0
                      obtain rfl : hd = B := by rw [← HBB.out, HBd.out]; simp
                      go_quiet (first | (go_at_call 43; exact quiet_as (CH.out _)))
                      go_wp2_with fail
                      go_meet
                      case rel => exact ⟨rfl, _, rfl⟩
                    · have hW0' : szO x0 ≠ 0 := by rw [HWd.out]; exact hW0
                      have e2 : (m : Int).tmod (Wd : Int) = ((m % Wd : Nat) : Int) := by rw [Int.tmod_eq_emod_of_nonneg (by omega)]; simp
                      have e4 : (m : Int) % (Wd : Int) = ((m % Wd : Nat) : Int) := by simp
                      have e1 : (m : Int).tdiv (Wd : Int) = ((m / Wd : Nat) : Int) := by rw [Int.tdiv_eq_ediv_of_nonneg (by omega)]; simp
                      have e3 : (m : Int) / (Wd : Int) = ((m / Wd : Nat) : Int) := by simp
                      have w2 : (0 : Int) < (Wd : Int) := by omega
                      have w3 : 0 < Wd := by omega
                      have w4 : decide (0 < Wd) = true := by simp [w3]
                      have hMm : m / Wd ≤ m := Nat.div_le_self m Wd
                      have hBd2 : badO x0 s = (decide (m % Wd ≠ 0) || !mayO x0 (m / Wd)) := by rw [HBd.out]; simp [hW0]
                      have HBd2 := Lib.hid hBd2
                      have CM : Hid (∀ w, Calls Try.prog 56 #[.int .i64 x0, .int .i64 ((m / Wd : Nat) : Int)] w fun e w' => e = .returned (.bool (mayO x0 (m / Wd))) ∧ w = w') := Lib.hid (fun w => refMay_any x0 _ w hW0')
                      clear hBd2 hW0'
                      generalize mayO x0 (m / Wd) = my at *
                      generalize m / Wd = M at *
                      generalize m % Wd = r at *
                      have w5 : IntKind.i64.wrap (M : Int) = (M : Int) := by rw [IntKind.wrap_i64]; omega
                      by_cases hr : r = 0
                      · subst hr
                        cases my
                        · obtain rfl : B = true := by rw [← HBB.out, HBd2.out]; simp
                          go_quiet (first | (go_at_call 56; exact quiet_as (CM.out _)))
                          go_wp2_with fail
                          go_meet
                          case rel => exact ⟨rfl, _, rfl⟩
                        · obtain rfl : hd = B := by rw [← HBB.out, HBd2.out]; simp
                          go_quiet (first | (go_at_call 56; exact quiet_as (CM.out _)) | (go_at_call 43; exact quiet_as (CH.out _)))
                          go_wp2_with fail
                          go_meet
                          case rel => exact ⟨rfl, _, rfl⟩
                      · obtain rfl : B = true := by rw [← HBB.out, HBd2.out]; simp [hr]
                        have e5 : ((r : Int) != 0) = true := by simp; omega
                        have e6 : ¬ (r : Int) = 0 := by omega
                        go_quiet (fail)
                        go_wp2_with fail
                        go_meet
                        case rel => exact ⟨rfl, _, rfl⟩
                  case rest =>
                    obtain ⟨rfl, q, rfl⟩ := hcut
                    have O2 := O1.draw q
                    have B2 := new_draw HBW.out q
                    clear O1 o0 CH HBW
                    generalize W.drewN q = W2 at *
                    have HO2 := Lib.hid O2
                    have hob2 : wr.heap.size ≤ ob := by rw [HOB.out]; exact Nat.le_refl _
                    cases B
                    · have HGO := Lib.hid (HPG.out rfl)
                      have hbd : badO x0 s = false := by
                        have h := HBB.out
                        rw [Bool.or_eq_false_iff] at h
                        exact h.1
                      have HBF := Lib.hid hbd
                      have hasL : an ≤ L := by omega
                      have htl : ((bs.drop a).take s).length = s := by rw [List.length_take, HRL.out]; have := HAS.out; omega
                      have hk0 : bF ((bs.drop a).take s) 0 = x0 := by rw [← HX0.out, bF, bF, List.getElem?_take, if_pos (by omega)]
                      have HOP : Hid (optO ((bs.drop a).take s) = if Wd = 0 then ⟨x0, [], strOfNums (((bs.drop a).take s).drop 2)⟩ else ⟨x0, numsO Wd (m / Wd) (((bs.drop a).take s).drop 2), ByteArray.empty⟩) := Lib.hid (by rw [optO, hk0, htl, HWd.out, HM.out])
                      obtain ⟨a2, ha2⟩ : ∃ a2, a + 2 = a2 := ⟨_, rfl⟩
                      have q5 : (a : Int) + 2 = (a2 : Int) := by omega
                      have HA2 := Lib.hid ha2
                      have hlo : a2 ≤ an := by have := HAS.out; omega
                      have hys : ((bs.drop a).take s).drop 2 = (bs.drop a2).take m := by
                        rw [List.drop_take, List.drop_drop, ha2, HM.out]
                      rw [hys] at HOP
                      have HYL : Hid (((bs.drop a2).take m).length = m) := Lib.hid (by rw [← hys, List.length_drop, htl]; exact HM.out)
                      have HYB : Hid (bytS ((bs.drop a2).take m)) := Lib.hid (byt_take (byt_drop HB.out _) _)
                      have ham : an = a2 + m := by have := HAS.out; have := HM.out; omega
                      have HAM := Lib.hid ham
                      clear HPB HPG hbd htl hk0 ha2 hys ham HBB
                      by_cases hW0 : Wd = 0
                      · subst hW0
                        have HO3 : Hid (optO ((bs.drop a).take s) = ⟨x0, [], strOfNums ((bs.drop a2).take m)⟩) := Lib.hid (by rw [HOP.out, if_pos rfl])
                        have k6 : (0 : Int) ≤ (a2 : Int) := by omega
                        have k7 : (a2 : Int) ≤ (an : Int) := by omega
                        have k8 : (an : Int) ≤ (c : Int) := by omega
                        have q6 : (an : Int) - (a2 : Int) = (m : Int) := by have := HAM.out; omega
                        have q7 : an - a2 = m := by have := HAM.out; omega
                        have p2 := O2.cell 2 rfl
                        have f2 := O2.frozen 2
                        have hsz : (strOfNums ((bs.drop a2).take m)).size ≤ 100 := by rw [str_size, HYL.out]; have := HAM.out; omega
                        generalize hst : strOfNums ((bs.drop a2).take m) = st at *
                        have HST := Lib.hid hst
                        clear hst
                        have O3 := O2.set 2 (.string st)
                        have B3 : Below wr.heap.size wr (W2.setCell ⟨ob, 2, none⟩ (.string st)) := new_set (p := ⟨ob, 2, none⟩) B2 hob2 _
                        have HH3 := Lib.hid (has_raw (W2.setCell ⟨ob, 2, none⟩ (.string st)) x0 st hsz)
                        have O4 := Lib.hid (HP.out.own.kept B3)
                        have hbs3 : w.heap.size ≤ (W2.setCell ⟨ob, 2, none⟩ (.string st)).heap.size := Nat.le_trans HP.out.low.size B3.size
                        obtain ⟨n6, hn6⟩ : ∃ n6, xs.length + 1 = n6 := ⟨_, rfl⟩
                        have HN6 := Lib.hid hn6
                        have n6b : n6 ≤ 1000000000 := by omega
                        clear hn6
                        have HS2 := Lib.hid (HS1.out.kept B2)
                        by_cases hca : c = a2
                        case' pos =>
                          have t1 : (convert 32 9 (.slice (some ⟨g, off, none⟩) m 0)).run Try.prog W2 = .ok (.string st) W2 := by
                            have h := text12_ls (w := W2) (g := g) (off := off) (c := 0) (zs := (bs.drop a2).take m) (.inl (List.eq_nil_of_length_eq_zero (by rw [HYL.out]; have := HAM.out; omega))) HYL.out
                            rwa [HST.out] at h
                          subst hca
                        case' neg =>
                          have t1 : (convert 32 9 (.slice (some ⟨g, off + a2, none⟩) m (c - a2))).run Try.prog W2 = .ok (.string st) W2 := by
                            have h := text12_ls (w := W2) (g := g) (off := off + a2) (c := c - a2) (zs := (bs.drop a2).take m) (part_ls HS2.out a2 m) HYL.out
                            rwa [HST.out] at h
                        all_goals
                          go_wp2_with fail
                          have O5 : Blk (W2.setCell ⟨ob, 2, none⟩ (.string st)) ob [.int .i64 x0, .slice none 0 0, .string st] 76 := O3
                          clear p2 f2 t1 O3
                          generalize W2.setCell ⟨ob, 2, none⟩ (.string st) = W3 at *
                          have d0 := O5.cell 0 rfl
                          have d1 := O5.cell 1 rfl
                          have d2 := O5.cell 2 rfl
                          go_loopg [10] 0 (fun gh vk wz => W3 = wz)
                          case atStart => rfl
                          case round =>
                            subst hrel
                            go_wp2_with (first
                              | (at_builtin; refine wp_pushE encO_is strO (by rfl) _ _ (by rfl) w.heap.size _ xs ⟨⟨x0, [], st⟩, none, 0, 0⟩ _ 1 (by rfl) (by rfl) (At.new W3 (encO ⟨⟨x0, [], st⟩, none, 0, 0⟩) _) (O4.out.alloc _) n6 HN6.out n6b (alloc_le hbs3 _) _ rfl ?_; intro g6 c6 w6 O6 G6 hat6 hlt6))
                            have HNX := Lib.hid (rpar_next HP.out B3 HH3.out (.inl rfl) G6 O6 hs2 (by rw [HAS.out]; exact hasL) HO3.out HGO.out)
                            rw [HAS.out] at HNX
                            go_roundg (L - an)
                            case measure => have := HAS.out; omega
                            case rel => exact ⟨an, _, by go_num, rfl, HNX.out⟩
                      · have hW1 : 0 < Wd := by omega
                        have hbf := HBF.out
                        rw [HBd.out] at hbf
                        simp only [ne_eq, hW0, not_false_eq_true, decide_true, Bool.true_and, decide_not, Bool.or_eq_false_iff, Bool.not_eq_false', decide_eq_true_eq] at hbf
                        obtain ⟨hr0, hmy⟩ := hbf
                        have hM3 : m / Wd ≤ 3 := by
                          simp only [mayO, Bool.and_eq_true, decide_eq_true_eq] at hmy
                          have := mo_three x0
                          omega
                        have hmw : m = m / Wd * Wd := by have := Nat.div_add_mod m Wd; rw [Nat.mul_comm]; omega
                        obtain ⟨ys, hys⟩ : ∃ ys, (bs.drop a2).take m = ys := ⟨_, rfl⟩
                        rw [hys] at HYL HYB HOP
                        have HO3 : Hid (optO ((bs.drop a).take s) = ⟨x0, numsO Wd (m / Wd) ys, ByteArray.empty⟩) := Lib.hid (by rw [HOP.out, if_neg hW0])
                        generalize m / Wd = M at *
                        have HMW := Lib.hid hmw
                        have HYS := Lib.hid hys
                        clear hmy hr0 hmw HOP HBd HBF hys
                        have w2 : (0 : Int) < (Wd : Int) := by omega
                        have w4 : ((Wd : Int) == 0) = false := by simp; omega
                        have HG0 : Hid (Grow W2 wr.heap.size ob x0 ByteArray.empty (numsO Wd 0 ys) (.slice none 0 0)) := Lib.hid ⟨O2, OwnK.nil _ _ _ _⟩
                        have HS2 : Hid (∀ wz, Below wr.heap.size wr wz → LsK .u8 wz g (some ⟨g, off, none⟩) bs) := Lib.hid (fun wz B => HS1.out.kept B)
                        clear O2 HO2
                        generalize wr = wo at *
                        go_wp2_with fail
                        go_loopg [10] M (fun gh vk wr => NumJ wo ob x0 a2 Wd M ys gh vk wr)
                        case atStart => exact ⟨0, a2, _, rfl, by omega, rfl, by omega, HG0.out, B2⟩
                        case round =>
                          clear HG0 B2
                          obtain ⟨i, kk, v, rfl, hkk, rfl, hi, G, B3⟩ := hrel
                          have HKK := Lib.hid hkk
                          have HG := Lib.hid G
                          clear hkk
                          by_cases hiM : i < M
                          · obtain ⟨k2', hk2⟩ : ∃ k2, kk + Wd = k2 := ⟨_, rfl⟩
                            have h0 : (i + 1) * Wd = i * Wd + Wd := by rw [Nat.add_mul, Nat.one_mul]
                            have h1 : (i + 1) * Wd ≤ M * Wd := Nat.mul_le_mul_right Wd hiM
                            have hkm : k2' ≤ an := by have := HKK.out; have := HMW.out; have := HAM.out; omega
                            have HK2 : Hid (k2' = a2 + (i + 1) * Wd) := Lib.hid (by have := HKK.out; omega)
                            have q8 : (kk : Int) + (Wd : Int) = (k2' : Int) := by omega
                            have q9 : IntKind.i64.wrap (k2' : Int) = (k2' : Int) := by rw [IntKind.wrap_i64]; omega
                            have r1 : (k2' : Int) - (kk : Int) = (Wd : Int) := by omega
                            have r2 : k2' - kk = Wd := by omega
                            have r3 : (kk : Int) < (an : Int) := by omega
                            have r4 : (0 : Int) ≤ (kk : Int) := by omega
                            have r5 : (kk : Int) ≤ (k2' : Int) := by omega
                            have r6 : (k2' : Int) ≤ (c : Int) := by omega
                            have r7 : ¬ c = kk := by omega
                            have hpart : (bs.drop kk).take Wd = (ys.drop (i * Wd)).take Wd := by
                              rw [← HYS.out, List.drop_take, List.drop_drop, List.take_take, ← HKK.out, Nat.min_eq_left (by have := HMW.out; omega)]
                            have hpl : ((ys.drop (i * Wd)).take Wd).length = Wd := by rw [List.length_take, List.length_drop, HYL.out]; have := HMW.out; omega
                            have hpb : bytS ((ys.drop (i * Wd)).take Wd) := byt_take (byt_drop HYB.out _) _
                            obtain ⟨z, hz⟩ : ∃ z, numF ((ys.drop (i * Wd)).take Wd) = z := ⟨_, rfl⟩
                            have zb := num_u32 hpb (by rw [hpl]; exact hs4)
                            rw [hz] at zb
                            obtain ⟨z4, z5⟩ := zb
                            have HZ2 := Lib.hid hz
                            have JC : Hid (Calls Try.prog 57 #[.slice (some ⟨g, off + kk, none⟩) Wd (c - kk)] wr.drew fun e w' => e = .returned (.int .u32 z) ∧ wr.drew = w') := Lib.hid (by
                              rw [← hz]
                              exact refNum12_any g (off + kk) Wd (c - kk) _ wr.drew (by rw [← hpart]; exact part_ls (HS2.out wr B3) kk Wd) hpl hpb hs4)
                            have b1' := G.1.cell 1 rfl
                            have bf := G.1.frozen 1
                            have HBl := Lib.hid G.1
                            have HOn := Lib.hid G.2
                            have HLN : Hid ((numsO Wd i ys).length + 1 = i + 1) := Lib.hid (by rw [nums_len])
                            have hbs := B3.size
                            have hi1 : i + 1 ≤ 1000000000 := by omega
                            have vb1 : ∀ o, (wr.alloc o).cell? ⟨ob, 1, none⟩ = some v := fun o => (G.1.alloc o).cell 1 rfl
                            have hpn : ¬ ob = wr.heap.size := by have := G.1.lt; omega
                            clear G hz hpart hpl hpb h0 h1 hk2
                            go_wp2_with fail
                            go_region_law
                              (first
                                | (refine step_pushK elN (o := ⟨some 131, _, _, _, _, _⟩) rfl _ _ rfl wo.heap.size v (numsO Wd i ys) z _ 1 rfl rfl ?_ ?_ (i + 1) HLN.out hi1 ?_ _ rfl ?_
                                   · exact (At.new wr.drew [.int .u32 z] _).cell 0 rfl
                                   · exact OwnK.alloc (w := wr.drew) HOn.out _
                                   · exact alloc_le (W := wr.drew) hbs _
                                   intro g3 c3 w3 O3 G3 hat3 hlt3
                                   have F3 := num_next12 HG.out B3 (new_alloc (new_drew (new_refl wr)) _) HZ2.out hob2 O3 G3
                                   have Q3 := ((Blk.alloc (w := wr.drew) HBl.out _).out (out_pushE G3) (fun e => absurd (ty_one (own_ty HOn.out e) ⟨_, HBl.out⟩) (by decide)))
                                   have q0 := Q3.cell 1 rfl
                                   have q1' := Q3.frozen 1)
                                | (go_simp; go_at_call 57; refine JC.out.mono ?_; rintro e w5 ⟨rfl, hw5⟩; subst hw5; dsimp only))
                            all_goals
                              clear b1' bf vb1 Q3 q0 q1'
                              go_wp2_with fail
                              go_roundg (M - (i + 1))
                              case measure => omega
                              case rel => exact ⟨i + 1, k2', _, rfl, HK2.out, rfl, by omega, F3.1, F3.2⟩
                          · obtain rfl : i = M := by omega
                            obtain rfl : kk = an := by have := HKK.out; have := HMW.out; have := HAM.out; omega
                            obtain ⟨A1, n1, c1, rfl, hn1⟩ := G.form
                            have d0 := G.1.cell 0 rfl
                            have d1 := G.1.cell 1 rfl
                            have d2 := G.1.cell 2 rfl
                            have HH3 := Lib.hid (G.has (nums_u32 HYB.out hs4) (by rw [nums_len]; omega) (by decide)).1
                            have HF3 := Lib.hid (far_own (o := ⟨x0, numsO Wd i ys, ByteArray.empty⟩) G.2)
                            have O4 := Lib.hid (HP.out.own.kept B3)
                            have hbs3 : w.heap.size ≤ wr.heap.size := Nat.le_trans HP.out.low.size B3.size
                            obtain ⟨n6, hn6⟩ : ∃ n6, xs.length + 1 = n6 := ⟨_, rfl⟩
                            have HN6 := Lib.hid hn6
                            have n6b : n6 ≤ 1000000000 := by omega
                            clear hn6 hn1 G
                            go_wp2_with (first
                              | (at_builtin; refine wp_pushE encO_is strO (by rfl) _ _ (by rfl) w.heap.size _ xs ⟨⟨x0, numsO Wd i ys, ByteArray.empty⟩, A1, n1, c1⟩ _ 1 (by rfl) (by rfl) (At.new wr (encO ⟨⟨x0, numsO Wd i ys, ByteArray.empty⟩, A1, n1, c1⟩) _) (O4.out.alloc _) n6 HN6.out n6b (alloc_le hbs3 _) _ rfl ?_; intro g6 c6 w6 O6 G6 hat6 hlt6))
                            have HNX := Lib.hid (rpar_next HP.out B3 HH3.out HF3.out G6 O6 hs2 (by rw [HAS.out]; exact hasL) HO3.out HGO.out)
                            rw [HAS.out] at HNX
                            go_roundg (L - kk)
                            case measure => have := HAS.out; omega
                            case rel => exact ⟨kk, _, by go_num, rfl, HNX.out⟩
                    · have HTB := Lib.hid (HPB.out rfl)
                      go_wp2_with fail
                      go_ret2
                      exact par_err HTB.out (new_then HP.out.low B2)
theorem refParse12_any (A : Option Addr) (g L c : Nat) (bs : List Int) (w : World) (h : LsK .u8 w g A bs) (hL : bs.length = L) (hb : bytS bs) (hc : L ≤ c) (hL3 : L ≤ 1000000) :
    Calls Try.prog 33 #[.slice A L c] w (ParTo12 w (parA bs)) := (refParse12_far A g L c bs w h hL hb hc hL3).mono fun _ _ h => h.to12
end Go.Proofs.Ytnkcnfkonifmhaa
