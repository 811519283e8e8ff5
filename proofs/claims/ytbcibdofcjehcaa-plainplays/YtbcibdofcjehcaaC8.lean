import Derived.Test.YtbcibdofcjehcaaC7
namespace Go.Proofs.Ytbcibdofcjehcaa
open Go.RowKit Go.Arb
set_option linter.unusedVariables false

def nats (l : List Nat) : List Int := l.map (fun n : Nat => (n : Int))
theorem nats_len (l : List Nat) : (nats l).length = l.length := by simp [nats]

theorem row_new (w : World) (base : Nat) (hb : base ≤ w.heap.size) (cs : List Value) (hc : cs.length ≤ maxLen) :
    (w.alloc (.cells cs.toArray 3)).ownsRow base 3 1 (.slice (some ⟨w.heap.size, 0, none⟩) cs.length cs.length) cs.length cs := by
  refine ⟨by simp, .inr ⟨w.heap.size, cs.length, cs.toArray, by simp, hb, ?_, Nat.le_refl _, hc, by simp, by simp⟩⟩
  exact heap_alloc_new w _

/-- A row of numbers of the call's own. -/
def NRow (B : Nat) (w : World) (v : Value) (l : List Nat) : Prop := w.ownsRow B 3 1 v l.length (nums (nats l))

theorem NRow.push {B : Nat} {W W1 : World} {v : Value} {l : List Nat} {g H n cap x : Nat} (h : NRow B W v l) (hB : B ≤ W.heap.size) (hgrow : (W.alloc (.cells #[.int .i64 (x : Int)] 3)).grownBy W1 v.ownBlock) (hat : v.ownBlock = some g ∨ g = H) (hH : W.heap.size ≤ H) (hlt : g < W1.heap.size) (hn : n = l.length)
    (hown : W1.ownsRow B 3 1 (.slice (some ⟨g, 0, none⟩) (n + 1) cap) (n + 1) (nums (nats l) ++ [.int .i64 (x : Int)])) {w : World} (hb : Below B w W) : NRow B W1 (.slice (some ⟨g, 0, none⟩) (n + 1) cap) (l ++ [x]) ∧ Below B w W1 := by
  subst hn
  obtain ⟨k1, k2, k3⟩ := app_keep ((Keep.refl [] W).alloc _) hgrow hat hH hlt
  refine ⟨?_, k1.below hb hB (row_ge h)⟩
  unfold NRow
  simpa [nums, nats] using hown

set_option maxHeartbeats 2000000 in
theorem way_no (x y : Int) (w : World) (p : Nat) (u v : Value) (F : Fo) (h : FoIn w p u v F) (ho : Ok F) (hs : F.tr.sameI x y = false) :
    Calls Try.prog 58 #[.pointer (some ⟨p, 0, none⟩), .int .i64 x, .int .i64 y] w fun e w' => e = .returned (.slice none 0 0) ∧ w = w' := by
  have h1 := hide (lca_no x y w p u v F h ho hs)
  clear hs h ho
  go_enter Try.func58, Try.ntmps58
  go_wp2_with fail
  refine (unhide h1).mono ?_
  rintro e w' ⟨rfl, rfl⟩
  go_wp2
  go_ret
  exact ⟨rfl, rfl⟩

theorem up_ne {par : Nat → Int} {x t : Nat} {a c : List Nat} (h : Up par x (a ++ t :: c)) (hne : x ≠ t) : ∃ a', a = x :: a' := by
  obtain ⟨l, e⟩ := h.head
  cases a with
  | nil => simp at e; exact absurd e.1.symm hne
  | cons z a => simp at e; exact ⟨a, by rw [e.1]⟩
theorem up_eq {par : Nat → Int} {t : Nat} {a c : List Nat} (h : Up par t (a ++ t :: c)) : a = [] := by
  obtain ⟨l, e⟩ := h.head
  cases a with
  | nil => rfl
  | cons z a =>
    simp at e
    have := h.first.1
    rw [e.1] at this
    simp at this

set_option maxHeartbeats 2000000 in
theorem way_yes (i j t : Nat) (a0 b0 c : List Nat) (w : World) (p : Nat) (u v : Value) (F : Fo) (h : FoIn w p u v F) (ho : Ok F) (hi : F.tr.par i ≠ -2) (hj : F.tr.par j ≠ -2) (hm : Meet (F.tr.up i) (F.tr.up j) t a0 b0 c) :
    Calls Try.prog 58 #[.pointer (some ⟨p, 0, none⟩), .int .i64 (i : Int), .int .i64 (j : Int)] w fun e w' => (∃ s, e = .returned s ∧ NRow w.heap.size w' s (t :: (a0 ++ b0))) ∧ Below w.heap.size w w' := by
  obtain ⟨i1, hi1, hy0, hy1, hy2⟩ := info_parts Try.info3
  have h1 := hide (lca_yes i j t a0 b0 c w p u v F h ho hi hj hm)
  have hua := ho.wf.spec hi
  have hub := ho.wf.spec hj
  have hla := ho.wf.len hua
  have hlb := ho.wf.len hub
  have hn := ho.fit.n
  rw [hm.el] at hla hua
  rw [hm.em] at hlb hub
  have hla' : a0.length ≤ 1048576 := by simp at hla; omega
  have hlb' : b0.length ≤ 1048576 := by simp at hlb; omega
  obtain ⟨c0, c1, c2, _⟩ := h.cells
  have hlt := Fo.par_lt hi
  obtain ⟨g, cap, rfl, k1, k2, k3, k4, _, k5⟩ := h.par i hlt
  have HUA := hide hua
  have HUB := hide hub
  have HP := hide (fun j (hj : F.tr.par j ≠ -2) => Fo.par_lt hj)
  have HC := hide k5
  have hp : p < w.heap.size := blk_lt h.blk
  generalize F.tr.par = par at *
  clear hua hub hla hlb hn hm ho hi hj h k5 c0 c2
  generalize F.ps.length = n at *
  unfold maxLen at k2
  have htn : ((t : Int) == -1) = false := by rw [beq_eq_false_iff_ne]; omega
  go_enter Try.func58, Try.ntmps58
  go_wp2_with fail
  refine (unhide h1).mono ?_
  rintro e w1 ⟨rfl, hb1⟩
  have HS := hide (And.intro (row_new w1 w.heap.size hb1.size [.int .i64 (t : Int)] (by unfold maxLen; simp)) (hb1.alloc hb1.size (.cells #[.int .i64 (t : Int)] 3)))
  clear hb1
  go_wp2
  go_loopg [1, 8] a0.length (fun gk a s w' => ∃ (x : Nat) (rest dn : List Nat), a = .int .i64 (x : Int) ∧ dn.length ≤ 1048576 ∧ Hid (Up par x (rest ++ t :: c) ∧ dn ++ rest = a0 ∧ rest.length = gk ∧ NRow w.heap.size w' s (t :: dn) ∧ Below w.heap.size w w'))
  case atStart => exact ⟨i, a0, [], rfl, by simp, unhide HUA, rfl, rfl, (unhide HS).1, (unhide HS).2⟩
  case round =>
    obtain ⟨x, rest, dn, rfl, hdn, HK⟩ := hrel
    obtain ⟨q1, q2, q3, q4, q5⟩ := unhide HK
    have c1' := c1
    rw [← q5.cell (p := ⟨p, 1, none⟩) hp] at c1'
    by_cases hxt : x = t
    · subst hxt
      have hre := up_eq q1
      subst hre
      simp at q2
      subst q2
      have HX := hide (And.intro q4 q5)
      clear q1 q3 q4 q5 HK c1'
      go_wp2
      go_loopg [2, 8] b0.length (fun gk a s w' => ∃ (y : Nat) (rest dm : List Nat), a = .int .i64 (y : Int) ∧ dm.length ≤ 1048576 ∧ Hid (Up par y (rest ++ x :: c) ∧ dm ++ rest = b0 ∧ rest.length = gk ∧ NRow w.heap.size w' s (x :: (dn ++ dm)) ∧ Below w.heap.size w w'))
      case atStart => exact ⟨j, b0, [], rfl, by simp, unhide HUB, rfl, rfl, by simpa using (unhide HX).1, (unhide HX).2⟩
      case round =>
        obtain ⟨y, rest, dm, rfl, hdm, HK⟩ := hrel
        obtain ⟨q1, q2, q3, q4, q5⟩ := unhide HK
        by_cases hyt : y = x
        · subst hyt
          have hre := up_eq q1
          subst hre
          simp at q2
          subst q2
          have HX := hide (And.intro q4 q5)
          clear q1 q3 q4 q5 HK
          go_wp2
          go_ret
          exact ⟨⟨_, rfl, (unhide HX).1⟩, (unhide HX).2⟩
        · obtain ⟨rest', rfl⟩ := up_ne q1 hyt
          have hne : ((y : Int) == (x : Int)) = false := by rw [beq_eq_false_iff_ne]; omega
          obtain ⟨q, e, hq, _⟩ := up_down q1
          have hyn := unhide HP y q1.there
          obtain ⟨d, _⟩ := unhide HC y hyn
          rw [e] at d
          have hrow := q4
          unfold NRow at hrow
          have hln : (x :: (dn ++ dm)).length ≤ 3000000 := by simp; omega
          have hsz := q5.size
          have HQ := hide (And.intro hq (And.intro q2 (And.intro q3 (And.intro q4 q5))))
          clear q1 q2 q3 q4 q5 HK hq e
          generalize hL : (x :: (dn ++ dm)).length = L at hrow hln
          have HL := hide hL
          clear hL
          go_wp2_with (at_builtin; refine wpList_append_lies _ rfl _ _ 53 rfl w.heap.size 3 i1 (.int .i64 0) 1 8 Try.underlying53 hi1 hy0 hy1 hy2 rfl (by decide) _ _ _ rfl (hrow.alloc _) ⟨wr.heap.size, 0, none⟩ 1 1 [.int .i64 (y : Int)] rfl rfl (news_at _ _ _ _ (by simp)) (one1' _) (by omega) (by unfold maxLen; omega) (by omega) (by simp; omega) (wr.heap.size + 1) (by simp) ?_)
          intro g' cap' w2 hown hgrow hat hlt'
          obtain ⟨p1, p2, p3, p4, p5⟩ := unhide HQ
          have r := p4.push hsz hgrow hat (by omega) hlt' (unhide HL).symm hown p5
          have c1' := c1
          rw [← r.2.cell (p := ⟨p, 1, none⟩) hp] at c1'
          rw [← r.2.cell (p := ⟨g, y, none⟩) k3] at d
          have HR := hide (And.intro p1 (And.intro p2 (And.intro p3 r)))
          have e1 : (0 : Int) ≤ (y : Int) := by omega
          have e2 : (y : Int) < (n : Int) := by omega
          clear p1 p2 p3 p4 p5 HQ r hown hgrow hat hlt' hrow
          go_wp2
          go_roundg (gk - 1)
          case rel =>
            obtain ⟨p1, p2, p3, p4, p5⟩ := unhide HR
            refine ⟨q, rest', dm ++ [y], rfl, ?_, p1, by rw [← p2]; simp, by simp at p3; omega, ?_, p5⟩
            · have := congrArg List.length p2; simp at this; simp; omega
            · rw [show x :: (dn ++ (dm ++ [y])) = (x :: (dn ++ dm)) ++ [y] from by simp]; exact p4
          all_goals
            obtain ⟨p1, p2, p3, p4, p5⟩ := unhide HR
            simp at p3
            omega
    · obtain ⟨rest', rfl⟩ := up_ne q1 hxt
      have hne : ((x : Int) == (t : Int)) = false := by rw [beq_eq_false_iff_ne]; omega
      obtain ⟨q, e, hq, _⟩ := up_down q1
      have hxn := unhide HP x q1.there
      obtain ⟨d, _⟩ := unhide HC x hxn
      rw [e] at d
      have hrow := q4
      unfold NRow at hrow
      have hln : (t :: dn).length ≤ 3000000 := by simp; omega
      have hsz := q5.size
      have HQ := hide (And.intro hq (And.intro q2 (And.intro q3 (And.intro q4 q5))))
      clear q1 q2 q3 q4 q5 HK hq e c1'
      generalize hL : (t :: dn).length = L at hrow hln
      have HL := hide hL
      clear hL
      go_wp2_with (at_builtin; refine wpList_append_lies _ rfl _ _ 53 rfl w.heap.size 3 i1 (.int .i64 0) 1 8 Try.underlying53 hi1 hy0 hy1 hy2 rfl (by decide) _ _ _ rfl (hrow.alloc _) ⟨wr.heap.size, 0, none⟩ 1 1 [.int .i64 (x : Int)] rfl rfl (news_at _ _ _ _ (by simp)) (one1' _) (by omega) (by unfold maxLen; omega) (by omega) (by simp; omega) (wr.heap.size + 1) (by simp) ?_)
      intro g' cap' w2 hown hgrow hat hlt'
      obtain ⟨p1, p2, p3, p4, p5⟩ := unhide HQ
      have r := p4.push hsz hgrow hat (by omega) hlt' (unhide HL).symm hown p5
      have c1' := c1
      rw [← r.2.cell (p := ⟨p, 1, none⟩) hp] at c1'
      rw [← r.2.cell (p := ⟨g, x, none⟩) k3] at d
      have HR := hide (And.intro p1 (And.intro p2 (And.intro p3 r)))
      have e1 : (0 : Int) ≤ (x : Int) := by omega
      have e2 : (x : Int) < (n : Int) := by omega
      clear p1 p2 p3 p4 p5 HQ r hown hgrow hat hlt' hrow
      go_wp2
      go_roundg (gk - 1)
      case rel =>
        obtain ⟨p1, p2, p3, p4, p5⟩ := unhide HR
        refine ⟨q, rest', dn ++ [x], rfl, ?_, p1, by rw [← p2]; simp, by simp at p3; omega, p4, p5⟩
        have := congrArg List.length p2; simp at this; simp; omega
      all_goals
        obtain ⟨p1, p2, p3, p4, p5⟩ := unhide HR
        simp at p3
        omega
end Go.Proofs.Ytbcibdofcjehcaa
