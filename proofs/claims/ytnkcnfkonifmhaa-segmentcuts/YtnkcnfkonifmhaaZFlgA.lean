/- Package flags: fitted, put2, put4; the document's put. -/
import Derived.Test.YtnkcnfkonifmhaaZLow
import Derived.Test.YtnkcnfkonifmhaaZRowsK
namespace Go.Proofs.Ytnkcnfkonifmhaa
open Go.RowKit
set_option linter.unusedVariables false

/-- A header with as much of its numbers as there is room for. -/
theorem fitted_any (h : Hd) (ok : HdOk h) (w : World) :
    Calls Try.prog 63 #[.agg #[.int .u16 h.src, .int .u16 h.dst, .int .u32 h.seq, .int .u32 h.ack, .int .u8 h.off, .int .u8 h.ace, .int .u8 h.fl, .int .u16 h.win, .int .u16 h.sum, .int .u16 h.urg]] w
      fun e w' => e = .returned (.agg #[.int .u16 h.src, .int .u16 h.dst, .int .u32 h.seq, .int .u32 h.ack, .int .u8 (h.off % 16), .int .u8 (h.ace % 8), .int .u8 (h.fl % 64), .int .u16 h.win, .int .u16 h.sum, .int .u16 h.urg]) ∧ Below w.heap.size w w' := by
  have e1 := and15F ok.off
  have e2 := and7F ok.ace
  have e3 := and63F ok.fl
  clear ok
  go_enter Try.func63, Try.ntmps63
  go_wp2_with fail
  exact bodyPost_ret (v := .agg #[.int .u16 h.src, .int .u16 h.dst, .int .u32 h.seq, .int .u32 h.ack, .int .u8 (h.off % 16), .int .u8 (h.ace % 8), .int .u8 (h.fl % 64), .int .u16 h.win, .int .u16 h.sum, .int .u16 h.urg]) (by simp [results, Try.results63, go_sem]) rfl ⟨rfl, new_alloc (new_alloc (new_refl w) _) _⟩

theorem grown_out {w w' : World} {b : Option Nat} (G : w.grownBy w' b) : Out (fun k => b = some k) w w' := ⟨G.os, G.tape, G.output, G.size, fun k hk hf => G.block k hk fun h => hf h.symm⟩
theorem at_outF {F : Nat → Prop} {w w' : World} {g : Nat} {vs : List Value} (h : At w g vs) (o : Out F w w') (hF : ¬ F g) : At w' g vs :=
  ⟨Nat.lt_of_lt_of_le h.1 o.size, fun i v hv => (World.cell?_of_block (a := ⟨g, i, none⟩) (o.block g h.1 hF)).trans (h.cell i hv)⟩
/-- A list that grows beside others. -/
def MoreI (w : World) (base : Nat) (v : Value) (zs : List Int) (v' : Value) (w' : World) : Prop :=
  OwnB w' base v' zs ∧ Out (fun k => v.ownBlock = some k) w w' ∧ (v'.ownBlock = v.ownBlock ∨ ∃ g, v'.ownBlock = some g ∧ w.heap.size ≤ g)
theorem more_refl {w : World} {base : Nat} {v : Value} {zs : List Int} (h : OwnB w base v zs) : MoreI w base v zs v w := ⟨h, Out.refl _ _, .inl rfl⟩
theorem more_alloc {w w' : World} {base : Nat} {v v' : Value} {zs : List Int} (h : MoreI w base v zs v' w') (o : Obj) : MoreI w base v zs v' (w'.alloc o) := ⟨h.1.alloc o, h.2.1.alloc o, h.2.2⟩
theorem more_then {w w' w2 : World} {base : Nat} {v v' v2 : Value} {zs zs' : List Int} (h : MoreI w base v zs v' w') (k : MoreI w' base v' zs' v2 w2) : MoreI w base v zs' v2 w2 := by
  obtain ⟨_, o, e⟩ := h
  obtain ⟨h2, o2, e2⟩ := k
  refine ⟨h2, o.trans o2 ?_, ?_⟩
  · intro i hi hv
    rcases e with e | ⟨g, e, hg⟩
    · exact e ▸ hv
    · rw [e] at hv; cases hv; omega
  · rcases e2 with e2 | ⟨g, e2, hg⟩
    · rcases e with e | ⟨g, e, hg⟩
      · exact .inl (e2.trans e)
      · exact .inr ⟨g, e2.trans e, hg⟩
    · exact .inr ⟨g, e2, by have := o.size; omega⟩
theorem more_grown {w w2 : World} {base : Nat} {v v2 : Value} {zs : List Int} (O : OwnB w2 base v2 zs) (G : w.grownBy w2 v.ownBlock) (hat : v2.ownBlock = v.ownBlock ∨ v2.ownBlock = some w.heap.size) : MoreI w base v zs v2 w2 :=
  ⟨O, grown_out G, hat.imp id fun h => ⟨_, h, Nat.le_refl _⟩⟩
/-- A block that is another one than the list's stays another one. -/
theorem more_far {w w' : World} {base g : Nat} {v v' : Value} {zs : List Int} (h : MoreI w base v zs v' w') (hg : g < w.heap.size) (hv : v.ownBlock ≠ some g) : v'.ownBlock ≠ some g := by
  rcases h.2.2 with e | ⟨g', e, hg'⟩
  · rw [e]; exact hv
  · rw [e]; intro h; cases h; omega
theorem two_src {w : World} {g : Nat} {a b : Int} (h : At w g [.int .u8 a, .int .u8 b]) : Src .u8 w (some ⟨g, 0, none⟩) 2 2 [a, b] :=
  ⟨rfl, .inr ⟨_, rfl, fun j hj => by
    have : j < 2 := hj
    match j, this with
    | 0, _ => exact h.cell 0 rfl
    | 1, _ => exact h.cell 1 rfl⟩⟩

def P2I (w : World) (base : Nat) (v : Value) (zs xs : List Int) (L gh : Nat) (vo vi : Value) (wr : World) : Prop :=
  ∃ k : Nat, vi = .int .i64 (k : Int) ∧ L - k = gh ∧ k ≤ L ∧ MoreI w base v (zs ++ twosF (xs.take k)) vo wr
set_option maxRecDepth 100000 in
set_option maxHeartbeats 1000000 in
theorem put2_any (base g L c : Nat) (v : Value) (zs xs : List Int) (w : World) (hO : OwnB w base v zs) (hA : At w g (xs.map (Value.int .u16))) (hg : v.ownBlock ≠ some g) (hb : base ≤ w.heap.size) (hL : xs.length = L) (hL2 : L ≤ 100) (hz : zs.length ≤ 1000) (hx : ∀ x ∈ xs, 0 ≤ x ∧ x ≤ 65535) :
    Calls Try.prog 64 #[v, .slice (some ⟨g, 0, none⟩) L c] w fun e w' => ∃ v', e = .returned v' ∧ MoreI w base v (zs ++ twosF xs) v' w' := by
  have HO := Lib.hid hO
  have HA := Lib.hid hA
  have HG := Lib.hid hg
  have HL := Lib.hid hL
  have HX := Lib.hid hx
  clear hO hA hg hL hx
  go_enter Try.func64, Try.ntmps64
  go_wp2_with fail
  go_loopg [0, 9] L (fun gh vo vi wr => P2I w base v zs xs L gh vo vi wr)
  case atStart => exact ⟨0, rfl, rfl, by omega, by simpa [twosF] using more_refl HO.out⟩
  case round =>
    obtain ⟨k, rfl, rfl, hk, hM⟩ := hrel
    by_cases hlt : k < L
    · have k0 : (0 : Int) ≤ (k : Int) := by omega
      have k1 : (k : Int) < (L : Int) := by omega
      have hk2 : k < xs.length := by rw [HL.out]; exact hlt
      have hxk := HX.out (xs[k]?.getD 0) (by rw [List.getElem?_eq_getElem hk2]; exact List.getElem_mem _)
      have ET := Lib.hid (twos_take hk2)
      have c0 := (at_outF HA.out hM.2.1 HG.out).cell k (v := .int .u16 (xs[k]?.getD 0)) (by rw [List.getElem?_map, List.getElem?_eq_getElem hk2]; rfl)
      generalize xs[k]?.getD 0 = x at c0 hxk ET
      obtain ⟨x0, x1⟩ := hxk
      have e1 : IntKind.u8.wrap (x / 256) = x / 256 := by rw [IntKind.wrap_u8]; omega
      have e2 : IntKind.u8.wrap x = x % 256 := IntKind.wrap_u8 _
      have hs := hM.2.1.size
      have hlen : (zs ++ twosF (xs.take k)).length + [x / 256, x % 256].length ≤ 1000000000 := by
        have h1 := twos_len (xs.take k)
        have h2 : (xs.take k).length ≤ k := List.length_take_le _ _
        rw [List.length_append, h1]; simp; omega
      have HM := Lib.hid hM
      have HN := Lib.hid hlen
      clear hlen hM hk2
      go_wp2_with (first
        | (at_builtin; refine wp_catK elB (by rfl) _ _ (by rfl) base _ (zs ++ twosF (xs.take k)) _ 2 2 [x / 256, x % 256] (by rfl) (by rfl) (two_src (At.new wr [.int .u8 (x / 256), .int .u8 (x % 256)] _)) (HM.out.1.alloc _) HN.out (alloc_le (Nat.le_trans hb hs) _) ?_; intro v1 w1 O1 G1 hat1))
      go_roundg (L - (k + 1))
      case measure => omega
      case rel => exact ⟨k + 1, by go_num, rfl, by omega, by rw [ET.out, ← List.append_assoc]; exact more_then (more_alloc HM.out _) (more_grown O1 G1 hat1)⟩
    · obtain rfl : k = L := by omega
      have e1 : xs.take k = xs := List.take_of_length_le (by have := HL.out; omega)
      rw [e1] at hM
      have HM := Lib.hid hM
      clear hM e1
      go_wp2_with fail
      go_ret
      exact ⟨_, rfl, HM.out⟩

def P4I (w : World) (base : Nat) (v : Value) (zs xs : List Int) (L gh : Nat) (vo vi : Value) (wr : World) : Prop :=
  ∃ k : Nat, vi = .int .i64 (k : Int) ∧ L - k = gh ∧ k ≤ L ∧ MoreI w base v (zs ++ foursF (xs.take k)) vo wr
set_option maxRecDepth 100000 in
set_option maxHeartbeats 1000000 in
theorem put4_any (base g L c : Nat) (v : Value) (zs xs : List Int) (w : World) (hO : OwnB w base v zs) (hA : At w g (xs.map (Value.int .u32))) (hg : v.ownBlock ≠ some g) (hb : base ≤ w.heap.size) (hL : xs.length = L) (hL2 : L ≤ 100) (hz : zs.length ≤ 500) (hx : ∀ x ∈ xs, 0 ≤ x ∧ x ≤ 4294967295) :
    Calls Try.prog 65 #[v, .slice (some ⟨g, 0, none⟩) L c] w fun e w' => ∃ v', e = .returned v' ∧ MoreI w base v (zs ++ foursF xs) v' w' := by
  have HO := Lib.hid hO
  have HA := Lib.hid hA
  have HG := Lib.hid hg
  have HL := Lib.hid hL
  have HX := Lib.hid hx
  have hgw := hA.1
  clear hO hA hg hL hx
  go_enter Try.func65, Try.ntmps65
  go_wp2_with fail
  go_loopg [0, 9] L (fun gh vo vi wr => P4I w base v zs xs L gh vo vi wr)
  case atStart => exact ⟨0, rfl, rfl, by omega, by simpa [foursF] using more_refl HO.out⟩
  case round =>
    obtain ⟨k, rfl, rfl, hk, hM⟩ := hrel
    by_cases hlt : k < L
    · have k0 : (0 : Int) ≤ (k : Int) := by omega
      have k1 : (k : Int) < (L : Int) := by omega
      have hk2 : k < xs.length := by rw [HL.out]; exact hlt
      have hxk := HX.out (xs[k]?.getD 0) (by rw [List.getElem?_eq_getElem hk2]; exact List.getElem_mem _)
      have ET := Lib.hid (fours_take hk2)
      have c0 := (at_outF HA.out hM.2.1 HG.out).cell k (v := .int .u32 (xs[k]?.getD 0)) (by rw [List.getElem?_map, List.getElem?_eq_getElem hk2]; rfl)
      generalize xs[k]?.getD 0 = x at c0 hxk ET
      obtain ⟨x0, x1⟩ := hxk
      have e1 : IntKind.u16.wrap (x / 65536) = x / 65536 := by rw [IntKind.wrap_u16]; omega
      have e2 : IntKind.u16.wrap x = x % 65536 := IntKind.wrap_u16 _
      have hs := hM.2.1.size
      have hlen : (zs ++ foursF (xs.take k)).length ≤ 1000 := by
        have h1 := fours_len (xs.take k)
        have h2 : (xs.take k).length ≤ k := List.length_take_le _ _
        rw [List.length_append, h1]; omega
      have HM := Lib.hid hM
      have HN := Lib.hid hlen
      have hf : u0.ownBlock ≠ some wr.heap.size := by
        intro h
        have := (World.ownsRow.lt hM.1 _ h).2
        omega
      have HF := Lib.hid hf
      have hxs : ∀ y ∈ [x / 65536, x % 65536], 0 ≤ y ∧ y ≤ 65535 := by intro y hy; simp at hy; omega
      have HXS := Lib.hid hxs
      clear hlen hM hk2 hf hxs
      go_wp2_with (first
        | (go_at_call 64; refine (put2_any base wr.heap.size 2 2 u0 (zs ++ foursF (xs.take k)) [x / 65536, x % 65536] _ (HM.out.1.alloc _) (At.new wr [.int .u16 (x / 65536), .int .u16 (x % 65536)] _) HF.out (alloc_le (Nat.le_trans hb hs) _) rfl (by decide) HN.out HXS.out).mono ?_; rintro e w1 ⟨v1, rfl, M1⟩))
      go_roundg (L - (k + 1))
      case measure => omega
      case rel => exact ⟨k + 1, by go_num, rfl, by omega, by rw [ET.out, ← List.append_assoc]; exact more_then (more_alloc HM.out _) M1⟩
    · obtain rfl : k = L := by omega
      have e1 : xs.take k = xs := List.take_of_length_le (by have := HL.out; omega)
      rw [e1] at hM
      have HM := Lib.hid hM
      clear hM e1
      go_wp2_with fail
      go_ret
      exact ⟨_, rfl, HM.out⟩

/-- The document's put. -/
theorem refPut_any : ∀ (k : Nat) (n : Int) (w : World), k ≤ 8 → 0 ≤ n → n ≤ 4294967295 →
    Calls Try.prog 46 #[.int .u32 n, .int .i64 (k : Int)] w (ListOf w (putF n k))
  | 0, n, w, _, h0, h1 => by
    go_enter Try.func46, Try.ntmps46
    go_wp2_with fail
    go_ret
    exact ⟨_, rfl, OwnK.nil _ _ _ _, new_refl w⟩
  | k + 1, n, w, hk, h0, h1 => by
    have ih := Lib.hid (refPut_any k (n / 256) w (by omega) (by omega) (by omega))
    have e1 : IntKind.u8.wrap (n % 256) = n % 256 := by rw [IntKind.wrap_u8]; omega
    have e2 : ((k + 1 : Nat) : Int) - 1 = (k : Int) := by omega
    have e3 : (((k + 1 : Nat) : Int) == 0) = false := by simp; omega
    have hlen : (putF (n / 256) k).length + 1 = k + 1 := by rw [putF_len]
    have HN := Lib.hid hlen
    clear hlen
    go_enter Try.func46, Try.ntmps46
    go_wp2_with (first
      | (go_at_call 46; refine ih.out.mono ?_; rintro e w1 ⟨v1, rfl, O1, B1⟩)
      | (at_builtin; refine wp_pushK elB (by rfl) _ _ (by rfl) w.heap.size _ (putF (n / 256) k) (n % 256) _ 1 (by rfl) (by rfl) ((At.new w1 [.int .u8 (n % 256)] _).cell 0 rfl) (O1.alloc _) (k + 1) HN.out (by omega) (alloc_le B1.size _) _ rfl ?_; intro g3 c3 w3 O3 G3 hat3 hlt3))
    go_ret
    exact ⟨_, rfl, O3, (B1.alloc B1.size _).trans (below_push (O1.alloc _) G3 (alloc_le B1.size _))⟩
end Go.Proofs.Ytnkcnfkonifmhaa
