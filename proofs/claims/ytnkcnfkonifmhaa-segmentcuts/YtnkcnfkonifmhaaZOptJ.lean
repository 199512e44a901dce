/- The document's Print of layer 12. -/
import Derived.Test.YtnkcnfkonifmhaaZOptI
namespace Go.Proofs.Ytnkcnfkonifmhaa
open Go.RowKit
set_option linter.unusedVariables false

theorem refPut12_any : ∀ (k : Nat) (n : Int) (w : World), k ≤ 8 → 0 ≤ n → n ≤ 4294967295 →
    Calls Try.prog 45 #[.int .u32 n, .int .i64 (k : Int)] w (ListOf w (putF n k))
  | 0, n, w, _, h0, h1 => by
    go_enter Try.func45, Try.ntmps45
    go_wp2_with fail
    go_ret
    exact ⟨_, rfl, OwnK.nil _ _ _ _, new_refl w⟩
  | k + 1, n, w, hk, h0, h1 => by
    have ih := Lib.hid (refPut12_any k (n / 256) w (by omega) (by omega) (by omega))
    have e1 : IntKind.u8.wrap (n % 256) = n % 256 := by rw [IntKind.wrap_u8]; omega
    have e2 : ((k + 1 : Nat) : Int) - 1 = (k : Int) := by omega
    have e3 : (((k + 1 : Nat) : Int) == 0) = false := by simp; omega
    have hlen : (putF (n / 256) k).length + 1 = k + 1 := by rw [putF_len]
    have HN := Lib.hid hlen
    clear hlen
    go_enter Try.func45, Try.ntmps45
    go_wp2_with (first
      | (go_at_call 45; refine ih.out.mono ?_; rintro e w1 ⟨v1, rfl, O1, B1⟩)
      | (at_builtin; refine wp_pushK elB (by rfl) _ _ (by rfl) w.heap.size _ (putF (n / 256) k) (n % 256) _ 1 (by rfl) (by rfl) ((At.new w1 [.int .u8 (n % 256)] _).cell 0 rfl) (O1.alloc _) (k + 1) HN.out (by omega) (alloc_le B1.size _) _ rfl ?_; intro g3 c3 w3 O3 G3 hat3 hlt3))
    go_ret
    exact ⟨_, rfl, O3, (B1.alloc B1.size _).trans (below_push (O1.alloc _) G3 (alloc_le B1.size _))⟩

theorem refPutB (m : Nat) (z : Int) (w : World) (hm : m ≤ 4) (h0 : 0 < m) (z0 : 0 ≤ z) (z1 : z ≤ 4294967295) :
    Calls Try.prog 45 #[.int .u32 z, .int .i64 (m : Int)] w (BytesOf w (putF z m) m) :=
  (refPut12_any m z w (by omega) z0 z1).mono fun e w' h => h.bytes (putF_len z m) h0
theorem tri_grown {w w' : World} {b : Option Nat} {g g' i j k : Nat} {x y z : Value} (G : w.grownBy w' b) (hg : some g ≠ b) (hg' : some g' ≠ b) (h : w.cell? ⟨g, i, none⟩ = some x ∧ w.cell? ⟨g, j, none⟩ = some y ∧ w.cell? ⟨g', k, none⟩ = some z) : w'.cell? ⟨g, i, none⟩ = some x ∧ w'.cell? ⟨g, j, none⟩ = some y ∧ w'.cell? ⟨g', k, none⟩ = some z :=
  ⟨G.cell h.1 hg, G.cell h.2.1 hg, G.cell h.2.2 hg'⟩
def RChI (w : World) (os : List Opt) (T : Int) (n gh : Nat) (vm vi : Value) (wr : World) : Prop :=
  ∃ i many : Nat, vi = .int .i64 (i : Int) ∧ n - i = gh ∧ i ≤ n ∧ vm = .int .i64 (many : Int) ∧ many ≤ 502 * i ∧ chkO (os.take i) (os.drop i) many = T ∧ Below w.heap.size w wr
set_option maxRecDepth 100000 in
set_option maxHeartbeats 4000000 in
theorem refPrint_any (A : Option Addr) (n c : Nat) (xs : List OC) (w : World) (hx : OptsAt w A n xs) (hn : n ≤ 100) (hc : n ≤ c) :
    Calls Try.prog 23 #[.slice A n c] w (PrnTo w (xs.map OC.o)) := by
  have HX := Lib.hid hx
  obtain ⟨os, hos⟩ : ∃ os, xs.map OC.o = os := ⟨_, rfl⟩
  obtain ⟨T, hT⟩ : ∃ T, chkO [] os 0 = T := ⟨_, rfl⟩
  have HOS := Lib.hid hos
  have HA : Hid (∀ i, i < n → allO (os.take (i + 1)) = allO (os.take i) ++ bytO (nthO xs i).o) := Lib.hid (fun i hi => by rw [← hos]; exact all_nth hx.len hi)
  have HG : Hid (∀ i, i < n → ∃ h : i < os.length, os[i] = (nthO xs i).o) := Lib.hid (fun i hi => by subst hos; exact ⟨by simpa [hx.len] using hi, map_oc (by rw [hx.len]; exact hi)⟩)
  have HC : Hid (∀ i many, i < n → chkO (os.take i) (os.drop i) many = if fineO (nthO xs i).o = true then (if hadO (os.take i) (nthO xs i).o.k = true then 5 else chkO (os.take (i + 1)) (os.drop (i + 1)) (many + lenO (nthO xs i).o)) else 2) := Lib.hid (fun i many hi => by rw [← hos]; exact chk_nth hx.len hi)
  have HL : Hid (os.length = n) := Lib.hid (by rw [← hos]; simpa using hx.len)
  have HP : Hid (prO os = if T = 0 then padO (allO os) else []) := Lib.hid (by rw [prO, hT])
  rw [hos]
  have HT := Lib.hid hT
  clear hx hT hos
  have c0' : (n : Int) ≤ (c : Int) := by omega
  go_enter Try.func23, Try.ntmps23
  go_wp2_with fail
  go_loopg [4, 5] n (fun gh vm vi wr => RChI w os T n gh vm vi wr)
  case atStart => exact ⟨0, 0, rfl, rfl, by omega, rfl, by omega, by simpa using HT.out, new_refl w⟩
  case round =>
    obtain ⟨i, many, rfl, rfl, hi, rfl, hmany, hchk, hB⟩ := hrel
    have HK := Lib.hid hchk
    clear hchk
    by_cases hlt : i < n
    · have k0 : (0 : Int) ≤ (i : Int) := by omega
      have k1 : (i : Int) < (n : Int) := by omega
      have k2 : (i : Int) ≤ (c : Int) := by omega
      obtain ⟨g, off, rfl, T0, h0, g0⟩ := HX.out.at hlt
      have HT0 := Lib.hid T0
      have HS := Lib.hid (HC.out i many hlt)
      have HTk : Hid (∀ w', Below w.heap.size w w' → OptsAt w' (some ⟨g, off, none⟩) i (xs.take i)) := Lib.hid (fun w' B => (HX.out.kept B).take (by omega))
      have HMp : Hid ((xs.take i).map OC.o = os.take i) := Lib.hid (by rw [← HOS.out, List.map_take])
      have hlen := len_few h0
      have hfew := h0.few
      have htx := h0.txt
      have HLz := Lib.hid h0.len
      have H0 := Lib.hid h0
      clear h0 T0
      generalize nthO xs i = x at *
      obtain ⟨c0, c1, c2⟩ := HT0.out.kept hB
      cases hf : fineO x.o
      · have HE : Hid (2 = T) := Lib.hid (by rw [← HK.out, HS.out, hf]; rfl)
        go_wp2_with (first
          | (go_at_call 42; refine (refFine_any x _ (H0.out.kept hB)).mono ?_; rw [hf]; rintro e w1 ⟨rfl, B1⟩))
        go_ret2
        exact ⟨none, 0, 0, by rw [HT.out, ← HE.out]; rfl, by rw [HP.out, ← HE.out]; exact OwnK.nil _ _ _ _, new_then hB B1⟩
      · go_upto_region 7 with (first
          | (go_at_call 42; refine (refFine_any x _ (H0.out.kept hB)).mono ?_; rw [hf]; rintro e w1 ⟨rfl, B1⟩))
        have L1 := new_then hB B1
        clear c0 c1 c2
        obtain ⟨c0, c1, c2⟩ := HT0.out.kept L1
        have CH : Hid (∀ m, Calls Try.prog 43 #[.slice (some ⟨g, off, none⟩) i c, .int .i64 x.o.k] (w1.drewN m) fun e w' => e = .returned (.bool (hadO (os.take i) x.o.k)) ∧ w1.drewN m = w') := Lib.hid (fun m => by
          have := refHad_any (some ⟨g, off, none⟩) i c (xs.take i) x.o.k (w1.drewN m) ((HTk.out w1 L1).drew m) (by omega)
          rwa [HMp.out] at this)
        cases hh : hadO (os.take i) x.o.k
        · rw [hh] at CH
          have HE : Hid (chkO (os.take (i + 1)) (os.drop (i + 1)) (many + lenO x.o) = T) := Lib.hid (by rw [← HK.out, HS.out, hf, hh]; rfl)
          go_quiet (first | (go_at_call 43; exact quiet_as (CH.out _)))
          go_upto_region 9 with (fail)
          have L2 := new_draw L1 nq
          clear c0 c1 c2
          obtain ⟨c0, c1, c2⟩ := HT0.out.kept L2
          generalize w1.drewN nq = W1 at *
          obtain ⟨mm, hmm⟩ : ∃ mm, szO x.o.k = mm := ⟨_, rfl⟩
          obtain ⟨p, ep⟩ : ∃ p : Int, (x.n : Int) * (mm : Int) = p := ⟨_, rfl⟩
          have hs4 : mm ≤ 4 := by rw [← hmm]; exact sz_four _
          have h1 : x.n * mm ≤ 100 * 4 := Nat.mul_le_mul hfew hs4
          have p1 : p ≤ 400 := by rw [← ep, ← Int.natCast_mul]; omega
          have p0 : 0 ≤ p := by rw [← ep, ← Int.natCast_mul]; omega
          have EN : Hid ((many : Int) + 2 + p + (x.o.s.size : Int) = ((many + lenO x.o : Nat) : Int)) := Lib.hid (by
            rw [← ep, ← Int.natCast_mul, lenO, HLz.out, hmm, Nat.mul_comm x.n mm]; omega)
          have CS : Hid (∀ w, Calls Try.prog 44 #[.int .i64 x.o.k] w fun e w' => e = .returned (.int .i64 (mm : Int)) ∧ w = w') := Lib.hid (fun w => by have := refSize_any x.o.k w; rw [hmm] at this; exact this)
          have q1 : IntKind.i64.wrap ((many : Int) + 2) = (many : Int) + 2 := by rw [IntKind.wrap_i64]; omega
          have q2 : IntKind.i64.wrap p = p := by rw [IntKind.wrap_i64]; omega
          have q3 : IntKind.i64.wrap ((many : Int) + 2 + p) = (many : Int) + 2 + p := by rw [IntKind.wrap_i64]; omega
          have q4 : IntKind.i64.wrap ((many : Int) + 2 + p + (x.o.s.size : Int)) = (many : Int) + 2 + p + (x.o.s.size : Int) := by rw [IntKind.wrap_i64]; omega
          clear h1 hmm
          go_quiet (first | (go_at_call 44; exact quiet_as (CS.out _)))
          go_wp2_with fail
          go_roundg (n - (i + 1))
          case measure => omega
          case rel => exact ⟨i + 1, many + lenO x.o, by go_num, rfl, by omega, by rw [← EN.out], by omega, HE.out, new_draw L2 _⟩
        · rw [hh] at CH
          have HE : Hid (5 = T) := Lib.hid (by rw [← HK.out, HS.out, hf, hh]; rfl)
          go_quiet (first | (go_at_call 43; exact quiet_as (CH.out _)))
          go_wp2_with fail
          go_ret2
          exact ⟨none, 0, 0, by rw [HT.out, ← HE.out]; rfl, by rw [HP.out, ← HE.out]; exact OwnK.nil _ _ _ _, new_draw L1 _⟩
    · obtain rfl : i = n := by omega
      have HE := Lib.hid (chk_end (os := os) (i := i) (many := many) HL.out)
      have hmany2 : many ≤ 50200 := by omega
      clear hmany
      by_cases hm : 40 < many
      · have h1 : (40 : Int) < (many : Int) := by omega
        have HE2 : Hid (4 = T) := Lib.hid (by rw [← HK.out, HE.out, if_pos hm])
        go_wp2_with fail
        go_ret2
        exact ⟨none, 0, 0, by rw [HT.out, ← HE2.out]; rfl, by rw [HP.out, ← HE2.out]; exact OwnK.nil _ _ _ _, hB⟩
      · have h1 : ¬ (40 : Int) < (many : Int) := by omega
        obtain rfl : T = 0 := by rw [← HK.out, HE.out, if_neg hm]
        have HP2 : Hid (prO os = padO (allO os)) := Lib.hid (by rw [HP.out, if_pos rfl])
        obtain ⟨hfine, hman⟩ := chk_ok os [] 0 HT.out
        have HF := Lib.hid hfine
        have HMn := Lib.hid hman
        clear hfine hman hm HE HK HP HC
        go_wp2_with fail
        go_loopg [6, 7] i (fun gh vo vi wr => PrnI w os i gh vo vi wr)
        case atStart => exact ⟨0, rfl, rfl, by omega, by simpa [allO] using OwnK.nil _ _ _ _, hB⟩
        case round =>
          clear hB
          obtain ⟨j, rfl, rfl, hj, hO, hB⟩ := hrel
          have HO := Lib.hid hO
          clear hO
          by_cases hlt : j < i
          · have k0 : (0 : Int) ≤ (j : Int) := by omega
            have k1 : (j : Int) < (i : Int) := by omega
            obtain ⟨g, off, rfl, T0, h0, g0⟩ := HX.out.at hlt
            have HS := Lib.hid (HA.out j hlt)
            obtain ⟨hio, ho⟩ := HG.out j hlt
            have hfn := HF.out os[j] (List.getElem_mem _)
            have hk := fine_kind hfn
            have hl := all_len12 hio
            have hl2 := all_part os j
            have hmm := HMn.out
            rw [ho] at hk hl hfn
            have hl3 : lenO (nthO xs j).o ≤ 255 := by omega
            have hz : (allO (os.take j)).length ≤ 10000 := by omega
            have HZ := Lib.hid hz
            clear hio ho hl hl2 hmm hz
            generalize nthO xs j = x at *
            obtain ⟨o, a, q, cq⟩ := x
            have T1 := T0.kept hB
            have c0 : wr.cell? ⟨g, off + j * 3, none⟩ = some (.int .i64 o.k) := T1.1
            have c1 : wr.cell? ⟨g, off + j * 3 + 1, none⟩ = some (.slice a q cq) := T1.2.1
            have c2 : wr.cell? ⟨g, off + j * 3 + 2, none⟩ = some (.string o.s) := T1.2.2
            have hq : q ≤ 100 := h0.few
            have hqn : o.zs.length = q := h0.len
            have htx : o.s.size ≤ 100 := h0.txt
            have HX0 : Hid (∀ w', Below w.heap.size w w' → HasO w' ⟨o, a, q, cq⟩) := Lib.hid (fun w' B => h0.kept B)
            obtain ⟨m, hm⟩ : ∃ m, szO o.k = m := ⟨_, rfl⟩
            have hm4 : m ≤ 4 := by rw [← hm]; exact sz_four _
            have hm0 : 0 < q → 0 < m := by
              intro h
              rcases Nat.eq_zero_or_pos m with e | e
              · have hk' : 2 ≤ o.k ∧ o.k ≤ 255 := hk
                have hf2 : fineO o = true := hfn
                rw [fine_other (by omega) (by omega) (by omega)] at hf2
                simp at hf2
                rw [hf2] at hqn
                simp at hqn
                omega
              · exact e
            have HBy : Hid (bytO o = [o.k, (lenO o : Int)] ++ (o.zs.flatMap (fun z => putF z m) ++ sb o.s)) := Lib.hid (by rw [bytO, hm]; rfl)
            have CS : Hid (∀ w, Calls Try.prog 44 #[.int .i64 o.k] w fun e w' => e = .returned (.int .i64 (m : Int)) ∧ w = w') := Lib.hid (fun w => by have := refSize_any o.k w; rw [hm] at this; exact this)
            obtain ⟨p, ep⟩ : ∃ p : Int, (q : Int) * (m : Int) = p := ⟨_, rfl⟩
            have h1' : q * m ≤ 100 * 4 := Nat.mul_le_mul hq hm4
            have p1 : p ≤ 400 := by rw [← ep, ← Int.natCast_mul]; omega
            have p0 : 0 ≤ p := by rw [← ep, ← Int.natCast_mul]; omega
            obtain ⟨l, el⟩ : ∃ l : Int, 2 + p + (o.s.size : Int) = l := ⟨_, rfl⟩
            have EL : Hid (l = (lenO o : Int)) := Lib.hid (by rw [← el, ← ep, ← Int.natCast_mul, lenO, hqn, hm, Nat.mul_comm q m]; omega)
            have hl4 : lenO o ≤ 255 := hl3
            have hk4 : 2 ≤ o.k ∧ o.k ≤ 255 := hk
            have q2 : IntKind.i64.wrap p = p := by rw [IntKind.wrap_i64]; omega
            have q3 : IntKind.i64.wrap (2 + p) = 2 + p := by rw [IntKind.wrap_i64]; omega
            have q4 : IntKind.i64.wrap l = l := by rw [IntKind.wrap_i64]; omega
            have q5 : IntKind.u8.wrap l = l := by have := EL.out; rw [IntKind.wrap_u8]; omega
            have q6 : IntKind.u8.wrap o.k = o.k := by rw [IntKind.wrap_u8]; omega
            have HLn := Lib.hid hqn
            have HN : Hid ((allO (os.take j)).length + [o.k, l].length ≤ 1000000000) := Lib.hid (by have := HZ.out; simp only [List.length_cons, List.length_nil]; omega)
            clear T0 T1 h0 hfn hk hl3 hm h1' hqn
            go_upto_region 17 with (fail)
            have A2 := At.new wr [.int .i64 o.k, .slice a q cq, .string o.s] 76
            have L2 := new_alloc hB (.cells #[.int .i64 o.k, .slice a q cq, .string o.s] 76)
            have OW := Lib.hid (HO.out.alloc (.cells #[.int .i64 o.k, .slice a q cq, .string o.s] 76))
            generalize u6 = vO at *
            have f0 : some wr.heap.size ≠ vO.ownBlock := fun e => by have := (World.ownsRow.lt HO.out _ e.symm).2; omega
            clear c0 c1 c2
            generalize wr.alloc (.cells #[.int .i64 o.k, .slice a q cq, .string o.s] 76) = W at *
            generalize wr.heap.size = ob at *
            have hbW : w.heap.size ≤ W.heap.size := L2.size
            go_cut [6] (fun v1 wx => MoreI W w.heap.size vO (allO (os.take j) ++ [o.k, l]) v1 wx)
            case first =>
              have a0 := A2.cell 0 rfl
              have a1 := A2.cell 1 rfl
              have a2 := A2.cell 2 rfl
              go_region_held3 (fun w' => w'.cell? ⟨ob, 0, none⟩ = some (.int .i64 o.k) ∧ w'.cell? ⟨ob, 1, none⟩ = some (.slice a q cq) ∧ w'.cell? ⟨ob, 2, none⟩ = some (.string o.s))
                (first | go_keep | assumption | exact three_grown G4 f0 (by assumption))
                (first
                  | (go_at_call 44; refine (CS.out _).mono ?_; rintro e w3 ⟨rfl, rfl⟩)
                  | (refine step_catK elB (o := ⟨some 84, _, _, _, _, _⟩) rfl _ _ rfl w.heap.size vO (allO (os.take j)) _ 2 2 [o.k, l] rfl rfl ?_ ?_ HN.out ?_ _ rfl ?_
                     · exact two_src (At.new W.drew [.int .u8 o.k, .int .u8 l] _)
                     · exact OW.out.drew.alloc _
                     · exact alloc_le (W := W.drew) hbW _
                     intro v4 w4 O4 G4 hat4))
              all_goals
                clear a0 a1 a2
                go_wp2_with fail
                go_meet
                case rel => exact more_then (more_alloc (w := W) (w' := W.drew) ⟨OW.out.drew, (Out.refl _ W).drew, .inl rfl⟩ _) (more_grown O4 G4 hat4)
            case rest =>
              have M1 := Lib.hid hcut
              clear hcut q2 q3 q4 q5 q6 HN el ep
              go_wp2_with fail
              go_loopg [6, 9] q (fun gh vo vi wr => PutO W w.heap.size vO (allO (os.take j) ++ [o.k, l]) o.zs q m gh vo vi wr)
              case atStart => exact ⟨0, rfl, rfl, by omega, by simpa using M1.out⟩
              case round =>
                clear M1
                obtain ⟨t, rfl, rfl, ht, hM⟩ := hrel
                have MM := Lib.hid hM
                have LL := L2.trans (more_below OW.out hM hbW)
                have A3 := at_outF A2 hM.2.1 (fun e => f0 e.symm)
                have f2 := more_far hM A2.1 (fun e => f0 e.symm)
                have hs := hM.2.1.size
                clear hM
                have a0 := A3.cell 0 rfl
                have a1 := A3.cell 1 rfl
                have a2 := A3.cell 2 rfl
                by_cases hlt2 : t < q
                · have k2 : (0 : Int) ≤ (t : Int) := by omega
                  have k3 : (t : Int) < (q : Int) := by omega
                  obtain ⟨g2, off2, rfl, c0, x0, x1, _⟩ := (HX0.out wr ((L2.trans (more_below OW.out MM.out hbW)))).num (i := t) hlt2
                  have hg2 : g2 < w.heap.size := by
                    obtain ⟨g3, off3, e3, _, _, _, h3⟩ := (HX0.out w (new_refl w)).num (i := t) hlt2
                    cases e3
                    exact h3
                  have ET := Lib.hid (puts_take12 (m := m) (zs := o.zs) (i := t) (by have := HLn.out; omega))
                  generalize bF o.zs t = z at *
                  have hm1 := hm0 (by omega)
                  have CP := Lib.hid (fun w => refPutB m z w hm4 hm1 x0 x1)
                  have f3 : some g2 ≠ u6.ownBlock := fun e => by have := (World.ownsRow.lt MM.out.1 _ e.symm).1; omega
                  have f4 : some ob ≠ u6.ownBlock := fun e => f2 e.symm
                  have HN6 : Hid ((allO (os.take j) ++ [o.k, l] ++ (o.zs.take t).flatMap (fun z => putF z m)).length + (putF z m).length ≤ 1000000000) := Lib.hid (by
                    have h1 : m * (o.zs.take t).length ≤ 4 * 100 := Nat.mul_le_mul hm4 (by rw [List.length_take]; omega)
                    have h2 := HZ.out
                    simp only [List.length_append, puts_lenO, putF_len, List.length_cons, List.length_nil]
                    omega)
                  go_upto_region 21 with (fail)
                  clear a2
                  go_region_held3 (fun w' => w'.cell? ⟨ob, 0, none⟩ = some (.int .i64 o.k) ∧ w'.cell? ⟨ob, 1, none⟩ = some (.slice (some ⟨g2, off2, none⟩) q cq) ∧ w'.cell? ⟨g2, off2 + t, none⟩ = some (.int .u32 z))
                    (first | go_keep | assumption | exact three_kept B5 (by assumption) | exact tri_grown G6 f4 f3 (by assumption))
                    (first
                      | (go_at_call 44; refine (CS.out _).mono ?_; rintro e w3 ⟨rfl, rfl⟩)
                      | (go_at_call 45; refine (CP.out _).mono ?_; rintro e w5 ⟨g5, c5, rfl, O5, B5⟩; replace B5 := new_undrew B5; have OL := MM.out.1.kept B5; have hb5 := Nat.le_trans (Nat.le_trans hbW hs) B5.size)
                      | (refine step_catK elB (o := ⟨some 102, _, _, _, _, _⟩) rfl _ _ rfl w.heap.size u6 _ _ m _ (putF z m) rfl rfl ?_ ?_ HN6.out ?_ _ rfl ?_
                         · exact O5.src
                         · exact OL
                         · exact hb5
                         intro v6 w6 O6 G6 hat6))
                  all_goals
                    clear a0 a1 c0
                    go_wp2_with fail
                    go_roundg (q - (t + 1))
                    case measure => omega
                    case rel => exact ⟨t + 1, by go_num, rfl, by omega, by
                      rw [ET.out, ← List.append_assoc]
                      exact more_then (more_then MM.out ⟨OL, Out.of B5 _, .inl rfl⟩) (more_grown O6 G6 hat6)⟩
                · obtain rfl : t = q := by omega
                  have e3 : o.zs.take t = o.zs := List.take_of_length_le (by have := HLn.out; omega)
                  rw [e3] at MM
                  have HN7 : Hid ((allO (os.take j) ++ [o.k, l] ++ o.zs.flatMap (fun z => putF z m)).length + o.s.size ≤ 1000000000) := Lib.hid (by
                    have h1 : m * o.zs.length ≤ 4 * 100 := Nat.mul_le_mul hm4 (by have := HLn.out; omega)
                    have h2 := HZ.out
                    simp only [List.length_append, puts_lenO, List.length_cons, List.length_nil]
                    omega)
                  clear e3
                  go_wp2_with (first
                    | (at_builtin; refine wp_strB (by rfl) _ _ (by rfl) w.heap.size _ _ o.s (by rfl) (by rfl) MM.out.1 HN7.out (Nat.le_trans hbW hs) ?_; intro v7 w7 O7 G7))
                  go_roundg (i - (j + 1))
                  case measure => omega
                  case rel =>
                    refine ⟨j + 1, by go_num, rfl, by omega, ?_, LL.trans (below_push MM.out.1 G7 (Nat.le_trans hbW hs))⟩
                    have e4 : bytO o = [o.k, (lenO o : Int)] ++ (o.zs.flatMap (fun z => putF z m) ++ sb o.s) := HBy.out
                    rw [HS.out]
                    change OwnB w7 w.heap.size v7 (allO (os.take j) ++ bytO o)
                    rw [e4, ← EL.out, ← List.append_assoc, ← List.append_assoc]
                    exact O7
          · obtain rfl : j = i := by omega
            have e1 : os.take j = os := List.take_of_length_le (by have := HL.out; omega)
            rw [e1] at HO
            clear e1
            go_wp2_with fail
            go_loopg [6] ((4 - (allO os).length % 4) % 4) (fun gh vo wr => PadI w (allO os) gh vo wr)
            case atStart => exact ⟨0, rfl, Nat.zero_le _, by simpa using HO.out, hB⟩
            case round =>
              clear HO hB
              obtain ⟨m, rfl, hm, hO, hB⟩ := hrel
              obtain ⟨A5, n5, c5, rfl, hn5⟩ := own_form12 hO
              have hmm := HMn.out
              rw [List.length_append, List.length_replicate] at hn5
              have HO := Lib.hid hO
              have hzz := hB.size
              clear hO
              obtain ⟨n6, hn6⟩ : ∃ n6, (allO os ++ List.replicate m 0).length + 1 = n6 := ⟨_, rfl⟩
              have HN6 := Lib.hid hn6
              have hn6b : n6 ≤ 1000000000 := by rw [List.length_append, List.length_replicate] at hn6; omega
              clear hn6
              by_cases hlt : m < (4 - (allO os).length % 4) % 4
              · have em : ¬ ((n5 : Int) % 4 = 0) := by omega
                have HH := Lib.hid hn5
                clear hn5 hmm
                go_wp2_with (first
                  | (at_builtin; refine wp_pushK elB (by rfl) _ _ (by rfl) w.heap.size _ _ 0 _ 1 (by rfl) (by rfl) ((At.new wr [.int .u8 0] _).cell 0 rfl) (HO.out.alloc _) n6 HN6.out hn6b (alloc_le hzz _) _ rfl ?_; intro g5 c5 w5 O5 G5 hat5 hlt5))
                go_roundg ((4 - (allO os).length % 4) % 4 - (m + 1))
                case measure => omega
                case rel => exact ⟨m + 1, rfl, hlt, by rw [pad_more]; exact O5, (new_alloc hB _).trans (below_push (HO.out.alloc _) G5 (alloc_le hzz _))⟩
              · have em : (n5 : Int) % 4 = 0 := by omega
                have ep : Hid (allO os ++ List.replicate m 0 = prO os) := Lib.hid (by rw [HP2.out, padO]; congr 2; omega)
                clear hn5 hmm
                go_wp2_with fail
                go_ret2
                exact ⟨A5, n5, c5, by rw [HT.out]; rfl, by rw [← ep.out]; exact HO.out, hB⟩
end Go.Proofs.Ytnkcnfkonifmhaa
