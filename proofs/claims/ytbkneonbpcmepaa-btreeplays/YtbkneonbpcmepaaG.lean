/- The program's pool as plain sequences: what each call answers, and what it leaves. -/
import Derived.Test.YtbkneonbpcmepaaQB
namespace Go.Proofs.Ytbkneonbpcmepaa
open Go.RowKit Go.Arb
set_option linter.unusedVariables false
set_option linter.unusedSimpArgs false

/-- The program's pool, in the blocks ks. -/
def At (w : World) (p : Nat) (A : Se) (ks : List Nat) : Prop := ∃ v xs ad F, PB w p v xs ad F A ∧ ks = p :: (own v ++ tfs F)

section
variable {w w' : World} {p : Nat} {A : Se} {ks js : List Nat}
theorem At.lt (h : At w p A ks) : ∀ k ∈ ks, k < w.heap.size := by
  obtain ⟨v, xs, ad, F, h1, rfl⟩ := h
  exact h1.tlt
theorem At.keep (h : At w p A ks) (hk : Keep js w w') (ho : Off ks js) : At w' p A ks := by
  obtain ⟨v, xs, ad, F, h1, rfl⟩ := h
  exact ⟨v, xs, ad, F, h1.keep hk ho, rfl⟩
theorem At.below (h : At w p A ks) (hb : Below w.heap.size w w') : At w' p A ks := h.keep (Keep.ofBelow hb []) (fun _ _ => by simp)
theorem At.nd (h : At w p A ks) : A.L.flatten.Nodup := by obtain ⟨v, xs, ad, F, h1, _⟩ := h; exact h1.nd
theorem At.ne (h : At w p A ks) : ∀ l ∈ A.L, l ≠ [] := by obtain ⟨v, xs, ad, F, h1, _⟩ := h; exact h1.ne
theorem At.fit (h : At w p A ks) : ∀ v ∈ A.L.flatten, -1099511627776 ≤ A.W v ∧ A.W v ≤ 1099511627776 := by obtain ⟨v, xs, ad, F, h1, _⟩ := h; exact fun v hv => h1.fitW hv
theorem At.ltn (h : At w p A ks) : ∀ v ∈ A.L.flatten, v < A.n := by obtain ⟨v, xs, ad, F, h1, _⟩ := h; exact fun u hu => Nat.lt_of_lt_of_le (h1.lt u hu) h1.xn
theorem At.stays (h : At w p A ks) (hb : Below w.heap.size w w') : ∃ ks', At w' p A ks' ∧ Keep ks w w' ∧ Grew w ks ks' := ⟨ks, h.below hb, Keep.ofBelow hb _, Grew.refl _ _⟩
theorem At.same (h : At w p A ks) : ∃ ks', At w p A ks' ∧ Keep ks w w ∧ Grew w ks ks' := ⟨ks, h, Keep.refl _ _, Grew.refl _ _⟩
theorem below_drew {B : Nat} {w w' : World} (h : Below B w w') : Below B w w'.drew := ⟨h.os, h.tape, h.output, h.size, h.block⟩
theorem off_one {ks : List Nat} {b : Nat} (h : b ∉ ks) : Off ks [b] := fun k hk hm => by simp at hm; subst hm; exact h hk

theorem Out.at {J : List Nat} (h : Out w w' p J A) : ∃ ks', At w' p A ks' ∧ Keep J w w' ∧ Grew w J ks' := by
  obtain ⟨v', xs', ad', F', h1, h2, h3⟩ := h
  exact ⟨_, ⟨v', xs', ad', F', h1, rfl⟩, h2, h3⟩
theorem aNew (k : Nat) (w : World) (h1 : k ≤ 4194304) :
    Calls Try.prog 11 #[.int .i64 (k : Int)] w fun e w' => ∃ p ks, e = .returned (.pointer (some ⟨p, 0, none⟩)) ∧ At w' p (Se.new k) ks ∧ Below w.heap.size w w' ∧ ∀ k ∈ ks, w.heap.size ≤ k := by
  refine (pnew_any k w h1).mono ?_
  rintro e w' ⟨p, rfl, f1, f2, f3⟩
  refine ⟨p, [p], rfl, ⟨_, _, _, _, f1, by simp [own, Value.ownBlock, tfs]⟩, f2, fun k hk => ?_⟩
  simp at hk
  omega
theorem aHas (x : Int) (h : At w p A ks) : Calls Try.prog 29 #[.pointer (some ⟨p, 0, none⟩), .int .i64 x] w fun e w' => e = .returned (.bool (A.hasI x)) ∧ ∃ ks', At w' p A ks' ∧ Keep ks w w' ∧ Grew w ks ks' := by
  obtain ⟨v, xs, ad, F, h1, rfl⟩ := id h
  refine (has_any x h1).mono ?_
  rintro e w' ⟨rfl, rfl⟩; exact ⟨rfl, h.same⟩
theorem aLen (x : Int) (h : At w p A ks) : Calls Try.prog 31 #[.pointer (some ⟨p, 0, none⟩), .int .i64 x] w fun e w' => e = .returned (.int .i64 (A.lenI x)) ∧ ∃ ks', At w' p A ks' ∧ Keep ks w w' ∧ Grew w ks ks' := by
  obtain ⟨v, xs, ad, F, h1, rfl⟩ := id h
  refine (len_any x h1).mono ?_
  rintro e w' ⟨rfl, hb⟩; exact ⟨rfl, h.stays hb⟩
theorem aRank (x : Int) (h : At w p A ks) : Calls Try.prog 33 #[.pointer (some ⟨p, 0, none⟩), .int .i64 x] w fun e w' => e = .returned (.int .i64 (A.rankI x)) ∧ ∃ ks', At w' p A ks' ∧ Keep ks w w' ∧ Grew w ks ks' := by
  obtain ⟨v, xs, ad, F, h1, rfl⟩ := id h
  refine (rank_any x h1).mono ?_
  rintro e w' ⟨rfl, rfl⟩; exact ⟨rfl, h.same⟩
theorem aAt (x k : Int) (h : At w p A ks) : Calls Try.prog 35 #[.pointer (some ⟨p, 0, none⟩), .int .i64 x, .int .i64 k] w fun e w' => e = .returned (.int .i64 (A.atI x k)) ∧ ∃ ks', At w' p A ks' ∧ Keep ks w w' ∧ Grew w ks ks' := by
  obtain ⟨v, xs, ad, F, h1, rfl⟩ := id h
  refine (pat_any x k h1).mono ?_
  rintro e w' ⟨rfl, hb⟩; exact ⟨rfl, h.stays hb⟩
theorem aSame (a b : Int) (h : At w p A ks) : Calls Try.prog 37 #[.pointer (some ⟨p, 0, none⟩), .int .i64 a, .int .i64 b] w fun e w' => e = .returned (.bool (A.sameI a b)) ∧ ∃ ks', At w' p A ks' ∧ Keep ks w w' ∧ Grew w ks ks' := by
  obtain ⟨v, xs, ad, F, h1, rfl⟩ := id h
  refine (same_any a b h1).mono ?_
  rintro e w' ⟨rfl, q, rfl⟩; exact ⟨rfl, h.stays (below_drewN (Below.refl _ _) q)⟩
theorem aGet (x : Int) (h : At w p A ks) : Calls Try.prog 27 #[.pointer (some ⟨p, 0, none⟩), .int .i64 x] w fun e w' => e = .returned (.tuple #[.int .i64 (A.getI x), .bool (A.hasI x)]) ∧ ∃ ks', At w' p A ks' ∧ Keep ks w w' ∧ Grew w ks ks' := by
  obtain ⟨v, xs, ad, F, h1, rfl⟩ := id h
  refine (get_any x h1).mono ?_
  rintro e w' ⟨rfl, rfl⟩; exact ⟨rfl, h.same⟩
theorem aRange (a b : Int) (h : At w p A ks) : Calls Try.prog 25 #[.pointer (some ⟨p, 0, none⟩), .int .i64 a, .int .i64 b] w fun e w' => e = .returned (.tuple #[smV (A.rangeI a b), .bool (A.okR a b)]) ∧ ∃ ks', At w' p A ks' ∧ Keep ks w w' ∧ Grew w ks ks' := by
  obtain ⟨v, xs, ad, F, h1, rfl⟩ := id h
  refine (range_any a b h1).mono ?_
  rintro e w' ⟨rfl, hb⟩; exact ⟨rfl, h.stays hb⟩
theorem aAll (x : Int) (h : At w p A ks) : Calls Try.prog 39 #[.pointer (some ⟨p, 0, none⟩), .int .i64 x] w fun e w' => e = .returned (smV (A.allI x)) ∧ ∃ ks', At w' p A ks' ∧ Keep ks w w' ∧ Grew w ks ks' := by
  obtain ⟨v, xs, ad, F, h1, rfl⟩ := id h
  refine (all_any x h1).mono ?_
  rintro e w' ⟨rfl, hb⟩; exact ⟨rfl, h.stays hb⟩
theorem aAdd (x y : Int) (h : At w p A ks) : Calls Try.prog 13 #[.pointer (some ⟨p, 0, none⟩), .int .i64 x, .int .i64 y] w fun e w' => e = .returned (.bool (A.addOk x y)) ∧ ∃ ks', At w' p (A.addA x y) ks' ∧ Keep ks w w' ∧ Grew w ks ks' := by
  obtain ⟨v, xs, ad, F, h1, rfl⟩ := id h
  refine (padd_any x y h1).mono ?_
  rintro e w' ⟨rfl, hc⟩; exact ⟨rfl, hc.at⟩
theorem aDrop (x : Int) (h : At w p A ks) : Calls Try.prog 15 #[.pointer (some ⟨p, 0, none⟩), .int .i64 x] w fun e w' => e = .returned (.bool (A.dropB x)) ∧ ∃ ks', At w' p (A.dropA x) ks' ∧ Keep ks w w' ∧ Grew w ks ks' := by
  obtain ⟨v, xs, ad, F, h1, rfl⟩ := id h
  refine (pdrop_any x h1).mono ?_
  rintro e w' ⟨rfl, hc⟩; exact ⟨rfl, hc.at⟩
theorem aBefore (x : Int) (h : At w p A ks) : Calls Try.prog 17 #[.pointer (some ⟨p, 0, none⟩), .int .i64 x] w fun e w' => e = .returned (.bool (A.beforeB x)) ∧ ∃ ks', At w' p (A.beforeA x) ks' ∧ Keep ks w w' ∧ Grew w ks ks' := by
  obtain ⟨v, xs, ad, F, h1, rfl⟩ := id h
  refine (before_any x h1).mono ?_
  rintro e w' ⟨rfl, hc⟩; exact ⟨rfl, hc.at⟩
theorem aJoin (a b : Int) (h : At w p A ks) : Calls Try.prog 19 #[.pointer (some ⟨p, 0, none⟩), .int .i64 a, .int .i64 b] w fun e w' => e = .returned (.bool (A.joinB a b)) ∧ ∃ ks', At w' p (A.joinA a b) ks' ∧ Keep ks w w' ∧ Grew w ks ks' := by
  obtain ⟨v, xs, ad, F, h1, rfl⟩ := id h
  refine (pjoin_any a b h1).mono ?_
  rintro e w' ⟨rfl, hc⟩; exact ⟨rfl, hc.at⟩
theorem aSet (x y : Int) (h : At w p A ks) : Calls Try.prog 21 #[.pointer (some ⟨p, 0, none⟩), .int .i64 x, .int .i64 y] w fun e w' => e = .returned (.bool (A.setB x y)) ∧ ∃ ks', At w' p (A.setA x y) ks' ∧ Keep ks w w' ∧ Grew w ks ks' := by
  obtain ⟨v, xs, ad, F, h1, rfl⟩ := id h
  refine (pset_any x y h1).mono ?_
  rintro e w' ⟨rfl, hc⟩; exact ⟨rfl, hc.at⟩
theorem aLift (a b d : Int) (h : At w p A ks) : Calls Try.prog 23 #[.pointer (some ⟨p, 0, none⟩), .int .i64 a, .int .i64 b, .int .i64 d] w fun e w' => e = .returned (.bool (A.liftB a b d)) ∧ ∃ ks', At w' p (A.liftA a b d) ks' ∧ Keep ks w w' ∧ Grew w ks ks' := by
  obtain ⟨v, xs, ad, F, h1, rfl⟩ := id h
  refine (plift_any a b d h1).mono ?_
  rintro e w' ⟨rfl, hc⟩; exact ⟨rfl, hc.at⟩
end
end Go.Proofs.Ytbkneonbpcmepaa
