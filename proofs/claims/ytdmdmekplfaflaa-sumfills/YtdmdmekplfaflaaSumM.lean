/- Plain facts on sums of bytes' words that go round. -/
import Derived.Test.YtdmdmekplfaflaaCodM
namespace Go.Proofs.Ytdmdmekplfaflaa
set_option linter.unusedVariables false

/-- What a byte at place i counts. -/
def wtS (i : Nat) : Int := if i % 2 = 0 then 256 else 1
/-- The sum of bytes, the first one at place i. -/
def smS : Nat → List Int → Int
  | _, [] => 0
  | i, x :: xs => wtS i * x + smS (i + 1) xs
/-- A sum that goes round. -/
def rdS (t : Int) : Int := if t = 0 then 0 else (t - 1) % 65535 + 1
/-- They are bytes. -/
def bytS (xs : List Int) : Prop := ∀ x ∈ xs, 0 ≤ x ∧ x ≤ 255

theorem wt_two (i : Nat) : wtS (i + 2) = wtS i := by unfold wtS; rw [Nat.add_mod_right]
theorem wt_even {i : Nat} (h : i % 2 = 0) : wtS i = 256 := by unfold wtS; rw [if_pos h]
theorem wt_odd {i : Nat} (h : ¬ i % 2 = 0) : wtS i = 1 := by unfold wtS; rw [if_neg h]
theorem sm_app : ∀ (i : Nat) (xs ys : List Int), smS i (xs ++ ys) = smS i xs + smS (i + xs.length) ys
  | i, [], ys => by simp [smS]
  | i, x :: xs, ys => by
    have := sm_app (i + 1) xs ys
    simp only [List.cons_append, smS, this, List.length_cons, Int.add_assoc]
    rw [show i + 1 + xs.length = i + (xs.length + 1) by omega]
theorem sm_two : ∀ (i : Nat) (xs : List Int), smS (i + 2) xs = smS i xs
  | _, [] => rfl
  | i, x :: xs => by
    have := sm_two (i + 1) xs
    simp only [smS, wt_two]
    rw [show i + 2 + 1 = i + 1 + 2 by omega, this]
theorem sm_even (i : Nat) (xs : List Int) : ∀ n : Nat, smS (i + 2 * n) xs = smS i xs
  | 0 => rfl
  | n + 1 => by rw [show i + 2 * (n + 1) = i + 2 * n + 2 by omega, sm_two, sm_even i xs n]
theorem sm_ev {n : Nat} (h : n % 2 = 0) (xs : List Int) : smS n xs = smS 0 xs := by
  have := sm_even 0 xs (n / 2)
  rwa [show 0 + 2 * (n / 2) = n by omega] at this
theorem sm_one (i : Nat) (x : Int) : smS i [x] = wtS i * x := by simp [smS]
theorem sm_snoc (i : Nat) {xs : List Int} {k : Nat} (h : k < xs.length) : smS i (xs.take (k + 1)) = smS i (xs.take k) + wtS (i + k) * (xs[k]?.getD 0) := by
  rw [take_snoc7 h, sm_app, sm_one, List.length_take, Nat.min_eq_left (by omega)]
theorem sm_bd : ∀ (i : Nat) (xs : List Int), bytS xs → 0 ≤ smS i xs ∧ smS i xs ≤ 65280 * (xs.length : Int)
  | _, [], _ => by simp [smS]
  | i, x :: xs, h => by
    have h1 := sm_bd (i + 1) xs (fun y hy => h y (List.mem_cons_of_mem _ hy))
    have h2 := h x (by simp)
    simp only [smS, List.length_cons]
    unfold wtS
    split <;> omega
theorem byt_take {xs : List Int} (h : bytS xs) (n : Nat) : bytS (xs.take n) := fun x hx => h x (List.mem_of_mem_take hx)
theorem byt_drop {xs : List Int} (h : bytS xs) (n : Nat) : bytS (xs.drop n) := fun x hx => h x (List.mem_of_mem_drop hx)
theorem byt_app {xs ys : List Int} (h : bytS xs) (h' : bytS ys) : bytS (xs ++ ys) := fun x hx => by
  rw [List.mem_append] at hx
  rcases hx with hx | hx
  · exact h x hx
  · exact h' x hx
theorem byt_at {xs : List Int} (h : bytS xs) {k : Nat} (hk : k < xs.length) : 0 ≤ xs[k]?.getD 0 ∧ xs[k]?.getD 0 ≤ 255 := by
  rw [List.getElem?_eq_getElem hk]
  exact h _ (List.getElem_mem _)

theorem rdS_bd {t : Int} (h : 0 ≤ t) : 0 ≤ rdS t ∧ rdS t ≤ 65535 := by unfold rdS; split <;> omega
theorem rd_low {t : Int} (h : 0 ≤ t) (h1 : t ≤ 65535) : rdS t = t := by unfold rdS; split <;> omega
theorem rd_step {t : Int} (h : 65535 < t) : rdS (t / 65536 + t % 65536) = rdS t := by
  unfold rdS
  rw [if_neg (by omega), if_neg (by omega)]
  omega
theorem rd_add {a v : Int} (h : 0 ≤ a) (h0 : 0 ≤ v) (h1 : v ≤ 65535) : rdS (a + v) = if 65535 < rdS a + v then rdS a + v - 65536 + 1 else rdS a + v := by
  unfold rdS
  split <;> split <;> split <;> omega
theorem rd_full {t : Int} (h : 0 ≤ t) : rdS (t + (65535 - rdS t)) = 65535 := by
  unfold rdS
  split <;> split <;> omega
theorem mask16 (x : Int) (h : 0 ≤ x ∧ x ≤ 18446744073709551615) : bits .and .u64 x 65535 = x % 65536 :=
  bits_mask .u64 64 (by decide) wraps_u64 16 (by decide) x h.1 (by omega)

/-- Two bytes put at a place. -/
def fillS (zs : List Int) (p : Nat) (a b : Int) : List Int := zs.take p ++ a :: b :: zs.drop (p + 2)
theorem fill_len {zs : List Int} {p : Nat} (a b : Int) (h : p + 2 ≤ zs.length) : (fillS zs p a b).length = zs.length := by
  simp only [fillS, List.length_append, List.length_take, List.length_cons, List.length_drop]; omega
theorem fill_set {zs : List Int} {p : Nat} (a b : Int) (h : p + 2 ≤ zs.length) : (zs.set p a).set (p + 1) b = fillS zs p a b := by
  apply List.ext_getElem?
  intro i
  have hl : (zs.take p).length = p := by rw [List.length_take]; omega
  rw [fillS, List.getElem?_append, hl, List.getElem?_set, List.getElem?_set, List.length_set]
  by_cases h1 : i < p
  · rw [if_pos h1, if_neg (by omega), if_neg (by omega), List.getElem?_take, if_pos h1]
  · rw [if_neg h1]
    by_cases h2 : p + 1 = i
    · subst h2
      rw [if_pos rfl, if_pos (by omega), show p + 1 - p = 1 by omega]
      simp
    · rw [if_neg h2]
      by_cases h3 : p = i
      · subst h3
        rw [if_pos rfl, if_pos (by omega), Nat.sub_self]
        simp
      · rw [if_neg h3, show i - p = (i - p - 2) + 1 + 1 by omega, List.getElem?_cons_succ, List.getElem?_cons_succ, List.getElem?_drop]
        congr 1; omega
theorem fill_fill {zs : List Int} {p : Nat} (a b c d : Int) (h : p + 2 ≤ zs.length) : fillS (fillS zs p a b) p c d = fillS zs p c d := by
  have hl : (zs.take p).length = p := by rw [List.length_take]; omega
  have e1 : (fillS zs p a b).take p = zs.take p := by rw [fillS, List.take_append_of_le_length (by omega), List.take_of_length_le (by omega)]
  have e2 : (fillS zs p a b).drop (p + 2) = zs.drop (p + 2) := by
    rw [fillS, List.drop_append, hl, List.drop_eq_nil_of_le (by omega), show p + 2 - p = 2 by omega]
    simp
  rw [fillS, e1, e2, fillS]
theorem fill_byt {zs : List Int} {p : Nat} {a b : Int} (h : bytS zs) (ha : 0 ≤ a ∧ a ≤ 255) (hb : 0 ≤ b ∧ b ≤ 255) : bytS (fillS zs p a b) := by
  refine byt_app (byt_take h p) ?_
  intro x hx
  simp only [List.mem_cons] at hx
  rcases hx with rfl | rfl | hx
  · exact ha
  · exact hb
  · exact byt_drop h _ x hx
theorem fill_sm {zs : List Int} {p : Nat} (a b : Int) (h : p + 2 ≤ zs.length) (hp : p % 2 = 0) : smS 0 (fillS zs p a b) = smS 0 (fillS zs p 0 0) + (256 * a + b) := by
  have hl : (zs.take p).length = p := by rw [List.length_take]; omega
  simp only [fillS, sm_app, hl, smS, Nat.zero_add]
  rw [wt_even hp, wt_odd (by omega)]
  omega
/-- The checksum that is filled in. -/
def chkS (zs : List Int) (p : Nat) : Int := 65535 - rdS (smS 0 (fillS zs p 0 0))
theorem chk_bd {zs : List Int} (h : bytS zs) (p : Nat) : 0 ≤ chkS zs p ∧ chkS zs p ≤ 65535 := by
  have := rdS_bd (sm_bd 0 _ (fill_byt (p := p) (a := 0) (b := 0) h (by omega) (by omega))).1
  unfold chkS; omega
/-- What is filled. -/
def filS (zs : List Int) (p : Nat) : List Int := fillS zs p (chkS zs p / 256) (chkS zs p % 256)
theorem fil_byt {zs : List Int} (h : bytS zs) (p : Nat) : bytS (filS zs p) := by
  have := chk_bd h p
  exact fill_byt h (by omega) (by omega)
theorem fil_full {zs : List Int} {p : Nat} (h : p + 2 ≤ zs.length) (hp : p % 2 = 0) (hb : bytS zs) : rdS (smS 0 (filS zs p)) = 65535 := by
  have h0 := (sm_bd 0 _ (fill_byt (p := p) (a := 0) (b := 0) hb (by omega) (by omega))).1
  have e : 256 * (chkS zs p / 256) + chkS zs p % 256 = chkS zs p := by omega
  rw [filS, fill_sm _ _ h hp, e]
  exact rd_full h0
end Go.Proofs.Ytdmdmekplfaflaa
