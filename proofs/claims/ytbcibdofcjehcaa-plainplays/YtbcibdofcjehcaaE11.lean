/- The document's forest as a plain one: what each call answers, and what it leaves. -/
import Derived.Test.YtbcibdofcjehcaaE10
import Derived.Test.YtbcibdofcjehcaaE5
import Derived.Test.YtbcibdofcjehcaaE6
import Derived.Test.YtbcibdofcjehcaaE7
import Derived.Test.YtbcibdofcjehcaaH2
namespace Go.Proofs.Ytbcibdofcjehcaa
open Go.RowKit Go.Arb
set_option linter.unusedVariables false
set_option linter.unusedSimpArgs false

theorem RfAt.lt {w : World} {q : Nat} {T : Tr} {ks : List Nat} (h : RfAt w q T ks) : ∀ k ∈ ks, k < w.heap.size := by
  obtain ⟨bt, bu, bw, n, ft, fu, fw, h1, h2, rfl⟩ := h
  exact h1.lt
theorem RfAt.keep {w w' : World} {q : Nat} {T : Tr} {ks js : List Nat} (h : RfAt w q T ks) (hk : Keep js w w') (ho : Off ks js) : RfAt w' q T ks := by
  obtain ⟨bt, bu, bw, n, ft, fu, fw, h1, h2, rfl⟩ := h
  exact ⟨bt, bu, bw, n, ft, fu, fw, h1.keep hk ho, h2, rfl⟩
theorem Rf.lies : Lies RfAt := ⟨fun h => h.lt, fun h hk ho => h.keep hk ho⟩
theorem RfAt.same {w : World} {q : Nat} {T : Tr} {ks : List Nat} (h : RfAt w q T ks) : ∃ ks', RfAt w q T ks' ∧ Keep ks w w ∧ Grew w ks ks' := ⟨ks, h, Keep.refl _ _, Grew.refl _ _⟩
theorem RfAt.stays {w w' : World} {q : Nat} {T : Tr} {ks : List Nat} (h : RfAt w q T ks) (hb : Below w.heap.size w w') : ∃ ks', RfAt w' q T ks' ∧ Keep ks w w' ∧ Grew w ks ks' := ⟨ks, h.keep (Keep.ofBelow hb []) (fun _ _ => by simp), Keep.ofBelow hb _, Grew.refl _ _⟩
section
variable {w w' : World} {q : Nat} {T : Tr} {ks : List Nat}
theorem xHas (x : Int) (h : RfAt w q T ks) : Calls Try.prog 38 #[.pointer (some ⟨q, 0, none⟩), .int .i64 x] w fun e w' => e = .returned (.bool (T.hasI x)) ∧ ∃ ks', RfAt w' q T ks' ∧ Keep ks w w' ∧ Grew w ks ks' := by
  obtain ⟨bt, bu, bw, n, ft, fu, fw, h1, h2, rfl⟩ := id h
  refine (rhas_any x w q bt bu bw n ft fu fw T h1 h2).mono ?_
  rintro e w' ⟨rfl, rfl⟩
  exact ⟨rfl, h.same⟩
theorem xParent (x : Int) (h : RfAt w q T ks) : Calls Try.prog 42 #[.pointer (some ⟨q, 0, none⟩), .int .i64 x] w fun e w' => e = .returned (.int .i64 (T.parI x)) ∧ ∃ ks', RfAt w' q T ks' ∧ Keep ks w w' ∧ Grew w ks ks' := by
  obtain ⟨bt, bu, bw, n, ft, fu, fw, h1, h2, rfl⟩ := id h
  refine (rparent_any x w q bt bu bw n ft fu fw T h1 h2).mono ?_
  rintro e w' ⟨rfl, rfl⟩
  exact ⟨rfl, h.same⟩
theorem xGet (x : Int) (h : RfAt w q T ks) : Calls Try.prog 36 #[.pointer (some ⟨q, 0, none⟩), .int .i64 x] w fun e w' => e = .returned (.tuple #[.int .i64 (T.getI x), .bool (T.hasI x)]) ∧ ∃ ks', RfAt w' q T ks' ∧ Keep ks w w' ∧ Grew w ks ks' := by
  obtain ⟨bt, bu, bw, n, ft, fu, fw, h1, h2, rfl⟩ := id h
  refine (rget_any x w q bt bu bw n ft fu fw T h1 h2).mono ?_
  rintro e w' ⟨rfl, rfl⟩
  exact ⟨rfl, h.same⟩
theorem xRoot (x : Int) (h : RfAt w q T ks) : Calls Try.prog 40 #[.pointer (some ⟨q, 0, none⟩), .int .i64 x] w fun e w' => e = .returned (.int .i64 (T.rootI x)) ∧ ∃ ks', RfAt w' q T ks' ∧ Keep ks w w' ∧ Grew w ks ks' := by
  obtain ⟨bt, bu, bw, n, ft, fu, fw, h1, h2, rfl⟩ := id h
  refine (rroot_any x w q bt bu bw n ft fu fw T h1 h2).mono ?_
  rintro e w' ⟨rfl, rfl⟩
  exact ⟨rfl, h.same⟩
theorem xSame (x y : Int) (h : RfAt w q T ks) : Calls Try.prog 44 #[.pointer (some ⟨q, 0, none⟩), .int .i64 x, .int .i64 y] w fun e w' => e = .returned (.bool (T.sameI x y)) ∧ ∃ ks', RfAt w' q T ks' ∧ Keep ks w w' ∧ Grew w ks ks' := by
  obtain ⟨bt, bu, bw, n, ft, fu, fw, h1, h2, rfl⟩ := id h
  refine (rsame_any x y w q bt bu bw n ft fu fw T h1 h2).mono ?_
  rintro e w' ⟨rfl, rfl⟩
  exact ⟨rfl, h.same⟩
theorem xLca (x y : Int) (h : RfAt w q T ks) : Calls Try.prog 46 #[.pointer (some ⟨q, 0, none⟩), .int .i64 x, .int .i64 y] w fun e w' => e = .returned (.int .i64 (T.lcaI x y)) ∧ ∃ ks', RfAt w' q T ks' ∧ Keep ks w w' ∧ Grew w ks ks' := by
  obtain ⟨bt, bu, bw, n, ft, fu, fw, h1, h2, rfl⟩ := id h
  refine (rlca_any x y w q bt bu bw n ft fu fw T h1 h2).mono ?_
  rintro e w' ⟨rfl, hb⟩
  exact ⟨rfl, h.stays hb⟩
theorem xSub (x : Int) (h : RfAt w q T ks) : Calls Try.prog 34 #[.pointer (some ⟨q, 0, none⟩), .int .i64 x] w fun e w' => e = .returned (.tuple #[.int .i64 (T.subI x).c, .int .i64 (T.subI x).s, .bool (T.hasI x)]) ∧ ∃ ks', RfAt w' q T ks' ∧ Keep ks w w' ∧ Grew w ks ks' := by
  obtain ⟨bt, bu, bw, n, ft, fu, fw, h1, h2, rfl⟩ := id h
  refine (rsub_any x w q bt bu bw n ft fu fw T h1 h2).mono ?_
  rintro e w' ⟨rfl, hb⟩
  exact ⟨rfl, h.stays hb⟩
theorem xSize (x : Int) (h : RfAt w q T ks) : Calls Try.prog 48 #[.pointer (some ⟨q, 0, none⟩), .int .i64 x] w fun e w' => e = .returned (.int .i64 (T.sizeI x)) ∧ ∃ ks', RfAt w' q T ks' ∧ Keep ks w w' ∧ Grew w ks ks' := by
  obtain ⟨bt, bu, bw, n, ft, fu, fw, h1, h2, rfl⟩ := id h
  refine (rsize_any x w q bt bu bw n ft fu fw T h1 h2).mono ?_
  rintro e w' ⟨rfl, hb⟩
  exact ⟨rfl, h.stays hb⟩
theorem xPath (x y : Int) (h : RfAt w q T ks) : Calls Try.prog 32 #[.pointer (some ⟨q, 0, none⟩), .int .i64 x, .int .i64 y] w fun e w' => e = .returned (.tuple #[smV (T.pathI x y), .bool (T.sameI x y)]) ∧ ∃ ks', RfAt w' q T ks' ∧ Keep ks w w' ∧ Grew w ks ks' := by
  obtain ⟨bt, bu, bw, n, ft, fu, fw, h1, h2, rfl⟩ := id h
  refine (rpath_any x y w q bt bu bw n ft fu fw T h1 h2).mono ?_
  rintro e w' ⟨rfl, hb⟩
  exact ⟨rfl, h.stays hb⟩
theorem xCut (x : Int) (h : RfAt w q T ks) : Calls Try.prog 24 #[.pointer (some ⟨q, 0, none⟩), .int .i64 x] w fun e w' => e = .returned (.bool (T.cutB x)) ∧ ∃ ks', RfAt w' q (T.cutI x) ks' ∧ Keep ks w w' ∧ Grew w ks ks' := by
  obtain ⟨bt, bu, bw, n, ft, fu, fw, h1, h2, rfl⟩ := id h
  refine (rcut_any x w q bt bu bw n ft fu fw T h1 h2).mono ?_
  rintro e w' ⟨rfl, f', r1, r2, r3⟩
  exact ⟨rfl, [q, bt, bu, bw], ⟨bt, bu, bw, n, _, _, _, r1, r2, rfl⟩, r3, Grew.refl _ _⟩
theorem xSet (x y : Int) (h : RfAt w q T ks) : Calls Try.prog 28 #[.pointer (some ⟨q, 0, none⟩), .int .i64 x, .int .i64 y] w fun e w' => e = .returned (.bool (T.hasI x && fitB y)) ∧ ∃ ks', RfAt w' q (T.setI x y) ks' ∧ Keep ks w w' ∧ Grew w ks ks' := by
  obtain ⟨bt, bu, bw, n, ft, fu, fw, h1, h2, rfl⟩ := id h
  refine (rset_any x y w q bt bu bw n ft fu fw T h1 h2).mono ?_
  rintro e w' ⟨rfl, f', r1, r2, r3⟩
  exact ⟨rfl, [q, bt, bu, bw], ⟨bt, bu, bw, n, _, _, _, r1, r2, rfl⟩, r3, Grew.refl _ _⟩
theorem xEvert (x : Int) (h : RfAt w q T ks) : Calls Try.prog 26 #[.pointer (some ⟨q, 0, none⟩), .int .i64 x] w fun e w' => e = .returned (.bool (T.hasI x)) ∧ ∃ ks', RfAt w' q (T.evertI x) ks' ∧ Keep ks w w' ∧ Grew w ks ks' := by
  obtain ⟨bt, bu, bw, n, ft, fu, fw, h1, h2, rfl⟩ := id h
  refine (revert_any x w q bt bu bw n ft fu fw T h1 h2).mono ?_
  rintro e w' ⟨rfl, f', r1, r2, r3⟩
  exact ⟨rfl, [q, bt, bu, bw], ⟨bt, bu, bw, n, _, _, _, r1, r2, rfl⟩, r3, Grew.refl _ _⟩
theorem xLink (x y : Int) (h : RfAt w q T ks) : Calls Try.prog 22 #[.pointer (some ⟨q, 0, none⟩), .int .i64 x, .int .i64 y] w fun e w' => e = .returned (.bool (T.linkB x y)) ∧ ∃ ks', RfAt w' q (T.linkI x y) ks' ∧ Keep ks w w' ∧ Grew w ks ks' := by
  obtain ⟨bt, bu, bw, n, ft, fu, fw, h1, h2, rfl⟩ := id h
  refine (rlink_any x y w q bt bu bw n ft fu fw T h1 h2).mono ?_
  rintro e w' ⟨rfl, f', r1, r2, r3⟩
  exact ⟨rfl, [q, bt, bu, bw], ⟨bt, bu, bw, n, _, _, _, r1, r2, rfl⟩, r3, Grew.refl _ _⟩
theorem xDrop (x : Int) (h : RfAt w q T ks) : Calls Try.prog 20 #[.pointer (some ⟨q, 0, none⟩), .int .i64 x] w fun e w' => e = .returned (.bool (T.goB x)) ∧ ∃ ks', RfAt w' q (T.dropI x) ks' ∧ Keep ks w w' ∧ Grew w ks ks' := by
  obtain ⟨bt, bu, bw, n, ft, fu, fw, h1, h2, rfl⟩ := id h
  refine (rdrop_any x w q bt bu bw n ft fu fw T h1 h2).mono ?_
  rintro e w' ⟨rfl, f', r1, r2, r3⟩
  exact ⟨rfl, [q, bt, bu, bw], ⟨bt, bu, bw, n, _, _, _, r1, r2, rfl⟩, r3, Grew.refl _ _⟩
theorem xPathAdd (x y d : Int) (h : RfAt w q T ks) : Calls Try.prog 30 #[.pointer (some ⟨q, 0, none⟩), .int .i64 x, .int .i64 y, .int .i64 d] w fun e w' => e = .returned (.bool (T.raiseB x y d)) ∧ ∃ ks', RfAt w' q (T.pathAdd x y d) ks' ∧ Keep ks w w' ∧ Grew w ks ks' := by
  obtain ⟨bt, bu, bw, n, ft, fu, fw, h1, h2, rfl⟩ := id h
  refine (rpathAdd_any x y d w q bt bu bw n ft fu fw T h1 h2).mono ?_
  rintro e w' ⟨rfl, f', r1, r2, r3⟩
  exact ⟨rfl, [q, bt, bu, bw], ⟨bt, bu, bw, n, _, _, _, r1, r2, rfl⟩, r3, Grew.refl _ _⟩
theorem xAdd (x y : Int) (h : RfAt w q T ks) : Calls Try.prog 18 #[.pointer (some ⟨q, 0, none⟩), .int .i64 x, .int .i64 y] w fun e w' => e = .returned (.bool (T.addB x y)) ∧ ∃ ks', RfAt w' q (T.addI x y) ks' ∧ Keep ks w w' ∧ Grew w ks ks' := by
  obtain ⟨bt, bu, bw, n, ft, fu, fw, h1, h2, rfl⟩ := id h
  refine (rAdd_any x y w q bt bu bw n ft fu fw T h1 h2).mono ?_
  rintro e w' ⟨rfl, f1, f2, f3, r1, r2, r3⟩
  exact ⟨rfl, [q, bt, bu, bw], ⟨bt, bu, bw, n, _, _, _, r1, r2, rfl⟩, r3, Grew.refl _ _⟩
end
theorem x2New {w W : World} {p : Nat} {T : Tr} {js : List Nat} (h : Ob w W p T js) (n : Nat) (h1 : n ≤ 1048576) :
    Calls Try.prog 16 #[.int .i64 (n : Int)] W fun e W' => ∃ q, e = .returned (.pointer (some ⟨q, 0, none⟩)) ∧ Ob2 RfAt w W' p q T (Tr.new n) js ∧ Kept js W W' := by
  refine (rnew_any n W h1).mono ?_
  rintro e W' ⟨q, bt, bu, bw, fu, rfl, q1, q2, q3⟩
  exact ⟨q, rfl, h.pair q2 ⟨bt, bu, bw, n, _, _, _, q1, Says.new n h1 fu, rfl⟩ q3⟩
end Go.Proofs.Ytbcibdofcjehcaa
