/- Plain facts on options and their bytes. -/
import Derived.Test.YtdibhpiafipibaaFlgM
import Derived.Test.YtdibhpiafipibaaLsA
namespace Go.Proofs.Ytdibhpiafipibaa
open Go.RowKit
set_option linter.unusedVariables false

/-- An option: its kind, its numbers, its other bytes. -/
structure Opt where
  k : Int
  zs : List Int
  s : ByteArray
/-- Of how many bytes a number of a kind is (0: it is not known), how few and how many there may be. -/
def szO (k : Int) : Nat := if k = 2 then 2 else if k = 8 then 4 else if k = 172 then 3 else if k = 174 then 3 else 0
def leO (k : Int) : Nat := if k = 2 then 1 else if k = 8 then 2 else 0
def moO (k : Int) : Nat := if k = 2 then 1 else if k = 8 then 2 else if k = 172 then 3 else if k = 174 then 3 else 0
def knO (k : Int) : Bool := decide (szO k ≠ 0)
def mayO (k : Int) (n : Nat) : Bool := decide (leO k ≤ n) && decide (n ≤ moO k)
theorem kind_five (k : Int) : k = 2 ∨ k = 8 ∨ k = 172 ∨ k = 174 ∨ (k ≠ 2 ∧ k ≠ 8 ∧ k ≠ 172 ∧ k ≠ 174) := by omega
theorem sz_no {k : Int} (h : k ≠ 2 ∧ k ≠ 8 ∧ k ≠ 172 ∧ k ≠ 174) : szO k = 0 := by simp [szO, h]
theorem le_no {k : Int} (h : k ≠ 2 ∧ k ≠ 8 ∧ k ≠ 172 ∧ k ≠ 174) : leO k = 0 := by simp [leO, h]
theorem mo_no {k : Int} (h : k ≠ 2 ∧ k ≠ 8 ∧ k ≠ 172 ∧ k ≠ 174) : moO k = 0 := by simp [moO, h]
theorem sz_four (k : Int) : szO k ≤ 4 := by unfold szO; split <;> (try split) <;> (try split) <;> (try split) <;> omega
theorem mo_three (k : Int) : moO k ≤ 3 := by unfold moO; split <;> (try split) <;> (try split) <;> (try split) <;> omega
theorem kn_is {k : Int} : knO k = true ↔ szO k ≠ 0 := by simp [knO]
theorem kn_not {k : Int} : knO k = false ↔ szO k = 0 := by simp [knO]
/-- Was a known kind there? -/
def hadO (l : List Opt) (k : Int) : Bool := knO k && l.any (fun o => o.k == k)
/-- Has a known kind another length than it may have? -/
def badO (k : Int) (n : Nat) : Bool := knO k && (decide ((n - 2) % szO k ≠ 0) || !mayO k ((n - 2) / szO k))
/-- The numbers of bytes, w bytes each. -/
def numsO (w n : Nat) (xs : List Int) : List Int := (List.range n).map fun j => numF ((xs.drop (j * w)).take w)
/-- The option of its bytes. -/
def optO (ys : List Int) : Opt :=
  if szO (bF ys 0) = 0 then ⟨bF ys 0, [], strOfNums (ys.drop 2)⟩ else ⟨bF ys 0, numsO (szO (bF ys 0)) ((ys.length - 2) / szO (bF ys 0)) (ys.drop 2), ByteArray.empty⟩
/-- The options of bytes, behind those that were there. -/
def parO (bs : List Int) (l : List Opt) : List Opt × Int :=
  if h0 : bs.length = 0 then (l, 0)
  else if bF bs 0 = 0 then (if bs.all (fun x => x == 0) then (l, 0) else ([], 5))
  else if bF bs 0 = 1 then parO (bs.drop 1) l
  else if bs.length < 2 then ([], 3)
  else if h1 : bF bs 1 < 2 then ([], 5)
  else if (bs.length : Int) < bF bs 1 then ([], 3)
  else if badO (bF bs 0) (bF bs 1).toNat || hadO l (bF bs 0) then ([], 5)
  else parO (bs.drop (bF bs 1).toNat) (l ++ [optO (bs.take (bF bs 1).toNat)])
  termination_by bs.length
  decreasing_by all_goals (rw [List.length_drop]; omega)

theorem par_nil (l : List Opt) : parO [] l = (l, 0) := by rw [parO]; simp
theorem par_end {bs : List Int} (l : List Opt) (h : 0 < bs.length) (h0 : bF bs 0 = 0) : parO bs l = if bs.all (fun x => x == 0) then (l, 0) else ([], 5) := by
  rw [parO, dif_neg (by omega), if_pos h0]
theorem par_pass {bs : List Int} (l : List Opt) (h : 0 < bs.length) (h0 : bF bs 0 = 1) : parO bs l = parO (bs.drop 1) l := by
  rw [parO, dif_neg (by omega), if_neg (by omega), if_pos h0]
theorem par_one {bs : List Int} (l : List Opt) (h : bs.length = 1) (h0 : bF bs 0 ≠ 0) (h1 : bF bs 0 ≠ 1) : parO bs l = ([], 3) := by
  rw [parO, dif_neg (by omega), if_neg h0, if_neg h1, if_pos (by omega)]
theorem par_few {bs : List Int} (l : List Opt) (h : 2 ≤ bs.length) (h0 : bF bs 0 ≠ 0) (h1 : bF bs 0 ≠ 1) (h2 : bF bs 1 < 2) : parO bs l = ([], 5) := by
  rw [parO, dif_neg (by omega), if_neg h0, if_neg h1, if_neg (by omega), dif_pos h2]
theorem par_short {bs : List Int} (l : List Opt) (h : 2 ≤ bs.length) (h0 : bF bs 0 ≠ 0) (h1 : bF bs 0 ≠ 1) (h2 : ¬ bF bs 1 < 2) (h3 : (bs.length : Int) < bF bs 1) : parO bs l = ([], 3) := by
  rw [parO, dif_neg (by omega), if_neg h0, if_neg h1, if_neg (by omega), dif_neg h2, if_pos h3]
theorem par_bad {bs : List Int} (l : List Opt) (h : 2 ≤ bs.length) (h0 : bF bs 0 ≠ 0) (h1 : bF bs 0 ≠ 1) (h2 : ¬ bF bs 1 < 2) (h3 : ¬ (bs.length : Int) < bF bs 1) (h4 : (badO (bF bs 0) (bF bs 1).toNat || hadO l (bF bs 0)) = true) : parO bs l = ([], 5) := by
  rw [parO, dif_neg (by omega), if_neg h0, if_neg h1, if_neg (by omega), dif_neg h2, if_neg h3, if_pos h4]
theorem par_go {bs : List Int} (l : List Opt) (h : 2 ≤ bs.length) (h0 : bF bs 0 ≠ 0) (h1 : bF bs 0 ≠ 1) (h2 : ¬ bF bs 1 < 2) (h3 : ¬ (bs.length : Int) < bF bs 1) (h4 : (badO (bF bs 0) (bF bs 1).toNat || hadO l (bF bs 0)) = false) : parO bs l = parO (bs.drop (bF bs 1).toNat) (l ++ [optO (bs.take (bF bs 1).toNat)]) := by
  rw [parO, dif_neg (by omega), if_neg h0, if_neg h1, if_neg (by omega), dif_neg h2, if_neg h3, if_neg (by simp [h4])]

/-- How many bytes an option has; may it be?; its bytes. -/
def lenO (o : Opt) : Nat := 2 + szO o.k * o.zs.length + o.s.size
def fineO (o : Opt) : Bool := decide (2 ≤ o.k) && decide (o.k ≤ 255) && (if szO o.k = 0 then decide (o.zs.length = 0) else mayO o.k o.zs.length && o.zs.all (fun z => decide (z < 256 ^ szO o.k)) && decide (o.s.size = 0))
def bytO (o : Opt) : List Int := o.k :: (lenO o : Int) :: (o.zs.flatMap (fun z => putF z (szO o.k)) ++ sb o.s)
def allO (l : List Opt) : List Int := l.flatMap bytO
def padO (xs : List Int) : List Int := xs ++ List.replicate ((4 - xs.length % 4) % 4) 0
/-- What is wrong of options, behind those that were there, which have so many bytes. -/
def chkO : List Opt → List Opt → Nat → Int
  | pre, [], many => if 40 < many then 4 else 0
  | pre, o :: r, many => if fineO o = true then (if hadO pre o.k = true then 5 else chkO (pre ++ [o]) r (many + lenO o)) else 2
theorem puts_lenO (w : Nat) : ∀ zs : List Int, (zs.flatMap (fun z => putF z w)).length = w * zs.length
  | [] => by simp
  | z :: zs => by rw [List.flatMap_cons, List.length_append, putF_len, puts_lenO w zs, List.length_cons, Nat.mul_add]; omega
theorem bytO_len (o : Opt) : (bytO o).length = lenO o := by
  rw [bytO, List.length_cons, List.length_cons, List.length_append, puts_lenO, sb_len, lenO]; omega
theorem allO_take {l : List Opt} {i : Nat} (h : i < l.length) : allO (l.take (i + 1)) = allO (l.take i) ++ bytO l[i] := by
  unfold allO; rw [List.take_succ_eq_append_getElem h, List.flatMap_append, List.flatMap_cons, List.flatMap_nil, List.append_nil]
theorem padO_len (xs : List Int) : (padO xs).length % 4 = 0 ∧ (padO xs).length ≤ xs.length + 3 := by
  rw [padO, List.length_append, List.length_replicate]; omega
end Go.Proofs.Ytdibhpiafipibaa
