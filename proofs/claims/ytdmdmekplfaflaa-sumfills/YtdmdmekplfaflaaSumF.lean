/- Package sum: Pseudo; the document's own Pseudo. -/
import Derived.Test.YtdmdmekplfaflaaSumE
import Derived.Test.YtdmdmekplfaflaaTextB
namespace Go.Proofs.Ytdmdmekplfaflaa
open Go.RowKit
set_option linter.unusedVariables false

theorem four_src {w : World} {g : Nat} {a b c d : Int} (h : At w g [.int .u8 a, .int .u8 b, .int .u8 c, .int .u8 d]) : Src .u8 w (some ⟨g, 0, none⟩) 4 4 [a, b, c, d] :=
  ⟨rfl, .inr ⟨_, rfl, fun j hj => by
    have : j < 4 := hj
    match j, this with
    | 0, _ => exact h.cell 0 rfl
    | 1, _ => exact h.cell 1 rfl
    | 2, _ => exact h.cell 2 rfl
    | 3, _ => exact h.cell 3 rfl⟩⟩
/-- The twelve bytes. -/
def pseS (a b c d e f g h p n : Int) : List Int := [a, b, c, d, e, f, g, h, 0, p, n / 256 % 256, n % 256]
theorem twelve_own {w : World} {base : Nat} (hb : base ≤ w.heap.size) {zs : List Int} (hz : zs.length = 12) {vs : Array Value} (hv : (zs.map (Value.int .u8)).toArray = vs) {e : TypeId} {k : Nat} (hk : w.heap.size = k) : OwnK .u8 e (w.alloc (.cells vs e)) base (.slice (some ⟨k, 0, none⟩) 12 12) zs := by
  subst hv hk
  have h1 := World.ownsRow_lit (base := base) (size := 1) (e := e) w (zs.map (Value.int .u8)).toArray 12 hb (by unfold maxLen; omega) (by simp [hz])
  unfold OwnK
  rw [hz]
  simpa using h1
set_option maxHeartbeats 1000000 in
set_option maxRecDepth 100000 in
theorem refPseudo_any (a b c d e f g h p n : Int) (w : World) (hn : -9223372036854775808 ≤ n ∧ n ≤ 9223372036854775807) :
    Calls Try.prog 13 #[.agg #[.int .u8 a, .int .u8 b, .int .u8 c, .int .u8 d], .agg #[.int .u8 e, .int .u8 f, .int .u8 g, .int .u8 h], .int .u8 p, .int .i64 n] w (BytesOf w (pseS a b c d e f g h p n) 12) := by
  obtain ⟨n0, n1⟩ := hn
  obtain ⟨t, ht⟩ : ∃ t, n.tmod 65536 = t := ⟨_, rfl⟩
  have ht2 : (t < 0 ∧ t + 65536 = n % 65536) ∨ (0 ≤ t ∧ t = n % 65536) := by
    rw [Int.tmod_eq_emod] at ht
    split at ht <;> omega
  have A0 := At.new w [.int .u8 a, .int .u8 b, .int .u8 c, .int .u8 d] 29
  have A1 := At.newAt (alloc_size w (.cells #[.int .u8 a, .int .u8 b, .int .u8 c, .int .u8 d] 29)) [.int .u8 e, .int .u8 f, .int .u8 g, .int .u8 h] 29
  replace A0 := A0.alloc (.cells #[.int .u8 e, .int .u8 f, .int .u8 g, .int .u8 h] 29)
  have hs : ((w.alloc (.cells #[.int .u8 a, .int .u8 b, .int .u8 c, .int .u8 d] 29)).alloc (.cells #[.int .u8 e, .int .u8 f, .int .u8 g, .int .u8 h] 29)).heap.size = w.heap.size + 1 + 1 := by rw [alloc_size, alloc_size]
  have HB := Lib.hid (new_alloc (new_alloc (new_refl w) (.cells #[.int .u8 a, .int .u8 b, .int .u8 c, .int .u8 d] 29)) (.cells #[.int .u8 e, .int .u8 f, .int .u8 g, .int .u8 h] 29))
  have HO := Lib.hid (twelve_own (e := 5) HB.out.size (zs := pseS a b c d e f g h p n) rfl (vs := #[.int .u8 a, .int .u8 b, .int .u8 c, .int .u8 d, .int .u8 e, .int .u8 f, .int .u8 g, .int .u8 h, .int .u8 0, .int .u8 p, .int .u8 (n / 256 % 256), .int .u8 (n % 256)]) rfl hs)
  clear hs
  rcases ht2 with ⟨t0, t1⟩ | ⟨t0, t1⟩
  · have e1 : IntKind.u8.wrap ((t + 65536) / 256) = n / 256 % 256 := by rw [IntKind.wrap_u8]; omega
    have e2 : IntKind.u8.wrap ((t + 65536) % 256) = n % 256 := by rw [IntKind.wrap_u8]; omega
    have t2 : 0 ≤ t + 65536 := by omega
    have T1 := Lib.hid t1
    clear t1
    go_enter Try.func13, Try.ntmps13
    go_wp2_with fail
    go_ret
    exact ⟨_, 12, rfl, HO.out, new_alloc HB.out _⟩
  · have e1 : IntKind.u8.wrap (t / 256) = n / 256 % 256 := by rw [IntKind.wrap_u8]; omega
    have e2 : IntKind.u8.wrap (t % 256) = n % 256 := by rw [IntKind.wrap_u8]; omega
    have t2 : t ≤ 65535 := by omega
    have T1 := Lib.hid t1
    clear t1
    go_enter Try.func13, Try.ntmps13
    go_wp2_with fail
    go_ret
    exact ⟨_, 12, rfl, HO.out, new_alloc HB.out _⟩

theorem pse_app (a b c d e f g h p n : Int) : [] ++ [a, b, c, d] ++ [e, f, g, h] ++ [0, p, n / 256 % 256, n % 256] = pseS a b c d e f g h p n := rfl
set_option maxHeartbeats 1000000 in
set_option maxRecDepth 100000 in
theorem pseudo_any (a b c d e f g h p n : Int) (w : World) (hn : -9223372036854775808 ≤ n ∧ n ≤ 9223372036854775807) :
    Calls Try.prog 12 #[.agg #[.int .u8 a, .int .u8 b, .int .u8 c, .int .u8 d], .agg #[.int .u8 e, .int .u8 f, .int .u8 g, .int .u8 h], .int .u8 p, .int .i64 n] w (BytesOf w (pseS a b c d e f g h p n) 12) := by
  obtain ⟨n0, n1⟩ := hn
  have A0 := At.new w [.int .u8 a, .int .u8 b, .int .u8 c, .int .u8 d] 29
  have A1 := At.newAt (alloc_size w (.cells #[.int .u8 a, .int .u8 b, .int .u8 c, .int .u8 d] 29)) [.int .u8 e, .int .u8 f, .int .u8 g, .int .u8 h] 29
  replace A0 := A0.alloc (.cells #[.int .u8 e, .int .u8 f, .int .u8 g, .int .u8 h] 29)
  have HB := Lib.hid (new_alloc (new_alloc (new_refl w) (.cells #[.int .u8 a, .int .u8 b, .int .u8 c, .int .u8 d] 29)) (.cells #[.int .u8 e, .int .u8 f, .int .u8 g, .int .u8 h] 29))
  have mk : ∀ w, (Instr.makeSlice 22 (.int .i64 0) (.int .i64 12)).run Try.prog w = .ok (.slice (some ⟨w.heap.size, 0, none⟩) 0 12) (w.alloc (.cells (madeCells #[.int .u8 0] 12) 5)) := fun w => make_room elB 12 (by decide) w
  have e1 : IntKind.u8.wrap (n / 256) = n / 256 % 256 := IntKind.wrap_u8 _
  have e2 : IntKind.u8.wrap n = n % 256 := IntKind.wrap_u8 _
  have S0 := Lib.hid (four_src A0)
  have S1 := Lib.hid (four_src A1)
  have q1 : ([] : List Int).length + [a, b, c, d].length ≤ 1000000000 := by simp
  have q2 : ([] ++ [a, b, c, d] : List Int).length + [e, f, g, h].length ≤ 1000000000 := by simp
  have q3 : ([] ++ [a, b, c, d] ++ [e, f, g, h] : List Int).length + [0, p, n / 256 % 256, n % 256].length ≤ 1000000000 := by simp
  have Q1 := Lib.hid q1
  have Q2 := Lib.hid q2
  have Q3 := Lib.hid q3
  clear q1 q2 q3
  go_enter Try.func12, Try.ntmps12
  go_upto_region 1 with (fail)
  generalize hW : (w.alloc (.cells #[.int .u8 a, .int .u8 b, .int .u8 c, .int .u8 d] 29)).alloc (.cells #[.int .u8 e, .int .u8 f, .int .u8 g, .int .u8 h] 29) = W at A0 A1 HB S0 S1 ⊢
  clear hW A0 A1
  have O0 := Lib.hid (OwnK.room (k := .u8) (e := 5) (w := W) (n := 12) (Nat.le_refl _) (by decide))
  have B0 := Lib.hid (new_alloc (new_refl W) (.cells (madeCells #[.int .u8 0] 12) 5))
  go_wp2_with (first
    | (at_builtin; have h := O2; clear h; refine wp_catK elB (by rfl) _ _ (by rfl) W.heap.size _ ([] ++ [a, b, c, d] ++ [e, f, g, h]) _ 4 4 [0, p, n / 256 % 256, n % 256] (by rfl) (by rfl) (four_src (At.new w2 _ _)) (O2.alloc _) Q3.out (alloc_le B2.size _) ?_; intro v3 w3 O3 G3 hat3)
    | (at_builtin; have h := O1; clear h; refine wp_catK elB (by rfl) _ _ (by rfl) W.heap.size _ ([] ++ [a, b, c, d]) _ 4 4 [e, f, g, h] (by rfl) (by rfl) (S1.out.kept B1) O1 Q2.out B1.size ?_; intro v2 w2 O2 G2 hat2; have B2 := B1.trans (below_push O1 G2 B1.size))
    | (at_builtin; refine wp_catK elB (by rfl) _ _ (by rfl) W.heap.size _ [] _ 4 4 [a, b, c, d] (by rfl) (by rfl) (S0.out.kept B0.out) O0.out Q1.out B0.out.size ?_; intro v1 w1 O1 G1 hat1; have B1 := B0.out.trans (below_push O0.out G1 B0.out.size)))
  go_ret
  have B3 := (B2.alloc B2.size _).trans (below_push (O2.alloc _) G3 (alloc_le B2.size _))
  rw [pse_app] at O3
  obtain ⟨g3, c3, rfl, _, _⟩ := O3.some (n := 12) rfl (by decide)
  exact ⟨g3, c3, rfl, O3.mono HB.out.size, new_then HB.out B3⟩
end Go.Proofs.Ytdmdmekplfaflaa
