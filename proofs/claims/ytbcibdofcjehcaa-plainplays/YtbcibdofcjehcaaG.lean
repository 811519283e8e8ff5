/- The program's forest as one plain forest: what each call answers, and what it leaves. -/
import Derived.Test.YtbcibdofcjehcaaC12
import Derived.Test.YtbcibdofcjehcaaC13
import Derived.Test.YtbcibdofcjehcaaC14
namespace Go.Proofs.Ytbcibdofcjehcaa
open Go.RowKit Go.Arb
set_option linter.unusedVariables false
set_option linter.unusedSimpArgs false

def Tr.addI (T : Tr) (v w : Int) : Tr := if T.addB v w then T.add v.toNat w else T
def Tr.kidB (T : Tr) (v : Int) : Bool := (List.range T.n).any (fun u => T.par u == v)
def Tr.goB (T : Tr) (v : Int) : Bool := (T.hasI v && (T.par v.toNat == -1)) && !T.kidB v
def Tr.dropI (T : Tr) (v : Int) : Tr := if T.goB v then T.drop v.toNat else T
def Tr.linkI (T : Tr) (c p : Int) : Tr := if T.linkB c p then T.link c.toNat p.toNat else T
def Tr.cutB (T : Tr) (c : Int) : Bool := T.parI c != -1
def Tr.cutI (T : Tr) (c : Int) : Tr := if T.cutB c then T.cut c.toNat else T
def Tr.evertI (T : Tr) (v : Int) : Tr := if T.hasI v then T.evert v.toNat else T
def Tr.setI (T : Tr) (v w : Int) : Tr := if T.hasI v && fitB w then T.set v.toNat w else T

theorem linkB_true {T : Tr} (h : T.Wf) {c p : Int} (hl : T.linkB c p = true) : ∃ i q : Nat, c = i ∧ p = q ∧ T.par i = -1 ∧ T.par q ≠ -2 ∧ T.rootI q ≠ i ∧ i ∉ T.up q := by
  simp only [Tr.linkB, Bool.and_eq_true, bne_iff_ne, beq_iff_eq] at hl
  obtain ⟨⟨⟨h1, h2⟩, h3⟩, h4⟩ := hl
  obtain ⟨i, rfl, hi⟩ := Tr.hasI_true h1
  obtain ⟨q, rfl, hq⟩ := Tr.hasI_true h3
  simp at h2
  refine ⟨i, q, rfl, rfl, h2, hq, h4, fun hm => h4 ?_⟩
  rw [Tr.rootI, T.upI_nat]
  exact (h.spec hq).root_last hm h2

/-- The program's forest, in the blocks ks. -/
def At (w : World) (p : Nat) (T : Tr) (ks : List Nat) : Prop := ∃ u v F, FoIn w p u v F ∧ Ok F ∧ F.tr = T ∧ ks = fp p u v

section
variable {w w' : World} {p : Nat} {T : Tr} {ks js : List Nat}
theorem At.lt (h : At w p T ks) : ∀ k ∈ ks, k < w.heap.size := by
  obtain ⟨u, v, F, h1, _, _, rfl⟩ := h; exact h1.lt
theorem At.keep (h : At w p T ks) (hk : Keep js w w') (ho : Off ks js) : At w' p T ks := by
  obtain ⟨u, v, F, h1, h2, h3, rfl⟩ := h; exact ⟨u, v, F, h1.keep hk ho, h2, h3, rfl⟩
theorem At.below (h : At w p T ks) (hb : Below w.heap.size w w') : At w' p T ks := h.keep (Keep.ofBelow hb []) (fun _ _ => by simp)
theorem At.wf (h : At w p T ks) : T.Wf := by obtain ⟨u, v, F, h1, h2, rfl, _⟩ := h; exact h2.wf
theorem At.fit (h : At w p T ks) : T.Fit := by obtain ⟨u, v, F, h1, h2, rfl, _⟩ := h; exact h2.fit
theorem At.stays (h : At w p T ks) (hb : Below w.heap.size w w') : ∃ ks', At w' p T ks' ∧ Keep ks w w' ∧ Grew w ks ks' := ⟨ks, h.below hb, Keep.ofBelow hb _, Grew.refl _ _⟩
theorem At.same (h : At w p T ks) : ∃ ks', At w p T ks' ∧ Keep ks w w ∧ Grew w ks ks' := ⟨ks, h, Keep.refl _ _, Grew.refl _ _⟩
theorem aNew (n : Nat) (w : World) (h1 : n ≤ 1048576) :
    Calls Try.prog 14 #[.int .i64 (n : Int)] w fun e w' => ∃ p ks, e = .returned (.pointer (some ⟨p, 0, none⟩)) ∧ At w' p (Tr.new n) ks ∧ Below w.heap.size w w' ∧ ∀ k ∈ ks, w.heap.size ≤ k := by
  refine (new_any n w h1).mono ?_
  rintro e w' ⟨rfl, h2, h3, h4⟩
  refine ⟨_, _, rfl, ⟨_, _, _, h2, ⟨by simp, rfl, ?_, ?_⟩, ?_, rfl⟩, h3, fun k hk => ?_⟩
  · exact Tr.Wf.new n
  · exact Tr.Fit.new h1
  · simp [Fo.tr, Tr.new]
  · simp [fp, own, Value.ownBlock] at hk; omega
theorem aHas (x : Int) (h : At w p T ks) : Calls Try.prog 37 #[.pointer (some ⟨p, 0, none⟩), .int .i64 x] w fun e w' => e = .returned (.bool (T.hasI x)) ∧ ∃ ks', At w' p T ks' ∧ Keep ks w w' ∧ Grew w ks ks' := by
  obtain ⟨u, v, F, h1, h2, rfl, rfl⟩ := id h
  refine (has_any x w p u v F h1).mono ?_
  rintro e w' ⟨rfl, rfl⟩; exact ⟨rfl, h.same⟩
theorem aRoot (x : Int) (h : At w p T ks) : Calls Try.prog 39 #[.pointer (some ⟨p, 0, none⟩), .int .i64 x] w fun e w' => e = .returned (.int .i64 (T.rootI x)) ∧ ∃ ks', At w' p T ks' ∧ Keep ks w w' ∧ Grew w ks ks' := by
  obtain ⟨u, v, F, h1, h2, rfl, rfl⟩ := id h
  refine (root_any x w p u v F h1 h2).mono ?_
  rintro e w' ⟨rfl, rfl⟩; exact ⟨rfl, h.same⟩
theorem aParent (x : Int) (h : At w p T ks) : Calls Try.prog 41 #[.pointer (some ⟨p, 0, none⟩), .int .i64 x] w fun e w' => e = .returned (.int .i64 (T.parI x)) ∧ ∃ ks', At w' p T ks' ∧ Keep ks w w' ∧ Grew w ks ks' := by
  obtain ⟨u, v, F, h1, h2, rfl, rfl⟩ := id h
  refine (parent_any x w p u v F h1).mono ?_
  rintro e w' ⟨rfl, rfl⟩; exact ⟨rfl, h.same⟩
theorem aSame (x y : Int) (h : At w p T ks) : Calls Try.prog 43 #[.pointer (some ⟨p, 0, none⟩), .int .i64 x, .int .i64 y] w fun e w' => e = .returned (.bool (T.sameI x y)) ∧ ∃ ks', At w' p T ks' ∧ Keep ks w w' ∧ Grew w ks ks' := by
  obtain ⟨u, v, F, h1, h2, rfl, rfl⟩ := id h
  refine (same_any x y w p u v F h1 h2).mono ?_
  rintro e w' ⟨rfl, rfl⟩; exact ⟨rfl, h.same⟩
theorem aLca (x y : Int) (h : At w p T ks) : Calls Try.prog 45 #[.pointer (some ⟨p, 0, none⟩), .int .i64 x, .int .i64 y] w fun e w' => e = .returned (.int .i64 (T.lcaI x y)) ∧ ∃ ks', At w' p T ks' ∧ Keep ks w w' ∧ Grew w ks ks' := by
  obtain ⟨u, v, F, h1, h2, rfl, rfl⟩ := id h
  refine (lca_any x y w p u v F h1 h2).mono ?_
  rintro e w' ⟨rfl, hb⟩; exact ⟨rfl, h.stays hb⟩
theorem aGet (x : Int) (h : At w p T ks) : Calls Try.prog 35 #[.pointer (some ⟨p, 0, none⟩), .int .i64 x] w fun e w' => e = .returned (.tuple #[.int .i64 (T.getI x), .bool (T.hasI x)]) ∧ ∃ ks', At w' p T ks' ∧ Keep ks w w' ∧ Grew w ks ks' := by
  obtain ⟨u, v, F, h1, h2, rfl, rfl⟩ := id h
  refine (get_any x w p u v F h1 h2).mono ?_
  rintro e w' ⟨rfl, rfl⟩; exact ⟨rfl, h.same⟩
theorem aPath (x y : Int) (h : At w p T ks) : Calls Try.prog 31 #[.pointer (some ⟨p, 0, none⟩), .int .i64 x, .int .i64 y] w fun e w' => e = .returned (.tuple #[smV (T.pathI x y), .bool (T.sameI x y)]) ∧ ∃ ks', At w' p T ks' ∧ Keep ks w w' ∧ Grew w ks ks' := by
  obtain ⟨u, v, F, h1, h2, rfl, rfl⟩ := id h
  refine (path_any x y w p u v F h1 h2).mono ?_
  rintro e w' ⟨rfl, hb⟩; exact ⟨rfl, h.stays hb⟩
theorem aSub (x : Int) (h : At w p T ks) : Calls Try.prog 33 #[.pointer (some ⟨p, 0, none⟩), .int .i64 x] w fun e w' => e = .returned (.tuple #[.int .i64 (T.subI x).c, .int .i64 (T.subI x).s, .bool (T.hasI x)]) ∧ ∃ ks', At w' p T ks' ∧ Keep ks w w' ∧ Grew w ks ks' := by
  obtain ⟨u, v, F, h1, h2, rfl, rfl⟩ := id h
  refine (sub_any x w p u v F h1 h2).mono ?_
  rintro e w' ⟨rfl, hb⟩; exact ⟨rfl, h.stays hb⟩
theorem aSize (x : Int) (h : At w p T ks) : Calls Try.prog 47 #[.pointer (some ⟨p, 0, none⟩), .int .i64 x] w fun e w' => e = .returned (.int .i64 (T.sizeI x)) ∧ ∃ ks', At w' p T ks' ∧ Keep ks w w' ∧ Grew w ks ks' := by
  obtain ⟨u, v, F, h1, h2, rfl, rfl⟩ := id h
  refine (size_any x w p u v F h1 h2).mono ?_
  rintro e w' ⟨rfl, hb⟩; exact ⟨rfl, h.stays hb⟩
theorem aCheck (h : At w p T ks) : Calls Try.prog 49 #[.pointer (some ⟨p, 0, none⟩)] w fun e w' => e = .returned (.bool true) ∧ ∃ ks', At w' p T ks' ∧ Keep ks w w' ∧ Grew w ks ks' := by
  obtain ⟨u, v, F, h1, h2, rfl, rfl⟩ := id h
  refine (check_any w p u v F h1 h2).mono ?_
  rintro e w' ⟨rfl, hb⟩; exact ⟨rfl, h.stays hb⟩
theorem aAdd (x y : Int) (h : At w p T ks) : Calls Try.prog 17 #[.pointer (some ⟨p, 0, none⟩), .int .i64 x, .int .i64 y] w fun e w' => e = .returned (.bool (T.addB x y)) ∧ ∃ ks', At w' p (T.addI x y) ks' ∧ Keep ks w w' ∧ Grew w ks ks' := by
  obtain ⟨u, v, F, h1, h2, rfl, rfl⟩ := id h
  cases hb : F.tr.addB x y
  · refine (add_no x y w p u v F h1 hb).mono ?_
    rintro e w' ⟨rfl, rfl⟩; exact ⟨rfl, by simpa [Tr.addI, hb] using h.same⟩
  · have hb' := hb
    simp only [Tr.addB, Bool.and_eq_true, decide_eq_true_eq, Bool.not_eq_true'] at hb'
    obtain ⟨⟨⟨b1, b2⟩, b3⟩, b4⟩ := hb'
    obtain ⟨i, rfl⟩ := Int.eq_ofNat_of_zero_le b1
    have hi : F.tr.par i = -2 := by rw [F.tr.hasI_nat] at b3; simpa using b3
    have hn : i < F.room := by have : F.tr.n = F.room := rfl; omega
    refine (add_yes i y w p u v F h1 h2 hi hn b4).mono ?_
    rintro e w' ⟨rfl, u', v', F', q1, q2, q3, q4, q5⟩
    exact ⟨rfl, _, ⟨u', v', F', q1, q2, by rw [q3]; simp [Tr.addI, hb], rfl⟩, q4, q5⟩
theorem aLink (x y : Int) (h : At w p T ks) : Calls Try.prog 21 #[.pointer (some ⟨p, 0, none⟩), .int .i64 x, .int .i64 y] w fun e w' => e = .returned (.bool (T.linkB x y)) ∧ ∃ ks', At w' p (T.linkI x y) ks' ∧ Keep ks w w' ∧ Grew w ks ks' := by
  obtain ⟨u, v, F, h1, h2, rfl, rfl⟩ := id h
  cases hb : F.tr.linkB x y
  · refine (link_no x y w p u v F h1 h2 hb).mono ?_
    rintro e w' ⟨rfl, rfl⟩; exact ⟨rfl, by simpa [Tr.linkI, hb] using h.same⟩
  · obtain ⟨i, q, rfl, rfl, hi, hq, hr, hm⟩ := linkB_true h2.wf hb
    refine (link_yes i q w p u v F h1 h2 hi hq hr).mono ?_
    rintro e w' ⟨rfl, q1, q2⟩
    have hlt : i < F.ps.length := Fo.par_lt (by omega)
    have e1 : ({ F with ps := F.ps.set i (q : Int) } : Fo).tr = F.tr.link i q := Fo.tr_par hlt _
    refine ⟨rfl, _, ⟨u, v, _, q1, ⟨by simpa using h2.len, by simpa using h2.wl, ?_, ?_⟩, ?_, rfl⟩, q2, Grew.refl _ _⟩
    · rw [e1]; exact h2.wf.link hi hq hm
    · rw [e1]; exact h2.fit.link (by omega)
    · rw [e1]; simp [Tr.linkI, hb]
theorem aCut (x : Int) (h : At w p T ks) : Calls Try.prog 23 #[.pointer (some ⟨p, 0, none⟩), .int .i64 x] w fun e w' => e = .returned (.bool (T.cutB x)) ∧ ∃ ks', At w' p (T.cutI x) ks' ∧ Keep ks w w' ∧ Grew w ks ks' := by
  obtain ⟨u, v, F, h1, h2, rfl, rfl⟩ := id h
  cases hb : F.tr.cutB x
  · refine (cut_no x w p u v F h1 (by simpa [Tr.cutB] using hb)).mono ?_
    rintro e w' ⟨rfl, rfl⟩; exact ⟨rfl, by simpa [Tr.cutI, hb] using h.same⟩
  · have hb' : F.tr.parI x ≠ -1 := by simpa [Tr.cutB] using hb
    cases hh : F.tr.hasI x
    · exact absurd (by simp [Tr.parI, hh]) hb'
    obtain ⟨i, rfl, hi⟩ := Tr.hasI_true hh
    rw [Tr.parI, if_pos hh, Int.toNat_natCast] at hb'
    obtain h3 | ⟨q, hq, _⟩ := h2.wf.par_cases hi
    · exact absurd h3 hb'
    refine (cut_yes i q w p u v F h1 hq).mono ?_
    rintro e w' ⟨rfl, q1, q2⟩
    have hlt : i < F.ps.length := Fo.par_lt hi
    have e1 : ({ F with ps := F.ps.set i (-1) } : Fo).tr = F.tr.cut i := Fo.tr_par hlt _
    refine ⟨rfl, _, ⟨u, v, _, q1, ⟨by simpa using h2.len, by simpa using h2.wl, ?_, ?_⟩, ?_, rfl⟩, q2, Grew.refl _ _⟩
    · rw [e1]; exact h2.wf.cut hi
    · rw [e1]; exact h2.fit.cut hi
    · rw [e1]; simp [Tr.cutI, hb]
theorem aEvert (x : Int) (h : At w p T ks) : Calls Try.prog 25 #[.pointer (some ⟨p, 0, none⟩), .int .i64 x] w fun e w' => e = .returned (.bool (T.hasI x)) ∧ ∃ ks', At w' p (T.evertI x) ks' ∧ Keep ks w w' ∧ Grew w ks ks' := by
  obtain ⟨u, v, F, h1, h2, rfl, rfl⟩ := id h
  cases hb : F.tr.hasI x
  · refine (evert_no x w p u v F h1 hb).mono ?_
    rintro e w' ⟨rfl, rfl⟩; exact ⟨rfl, by simpa [Tr.evertI, hb] using h.same⟩
  · obtain ⟨i, rfl, hi⟩ := Tr.hasI_true hb
    refine (evert_yes i w p u v F h1 h2 hi).mono ?_
    rintro e w' ⟨rfl, F', q1, q2, q3, q4⟩
    exact ⟨rfl, _, ⟨u, v, F', q1, q2, by rw [q3]; simp [Tr.evertI, hb], rfl⟩, q4, Grew.refl _ _⟩
theorem aSet (x y : Int) (h : At w p T ks) : Calls Try.prog 27 #[.pointer (some ⟨p, 0, none⟩), .int .i64 x, .int .i64 y] w fun e w' => e = .returned (.bool (T.hasI x && fitB y)) ∧ ∃ ks', At w' p (T.setI x y) ks' ∧ Keep ks w w' ∧ Grew w ks ks' := by
  obtain ⟨u, v, F, h1, h2, rfl, rfl⟩ := id h
  cases hb : F.tr.hasI x && fitB y
  · refine (set_no x y w p u v F h1 hb).mono ?_
    rintro e w' ⟨rfl, rfl⟩; exact ⟨rfl, by rw [Tr.setI, hb]; exact h.same⟩
  · have hb' := hb
    rw [Bool.and_eq_true] at hb'
    obtain ⟨i, rfl, hi⟩ := Tr.hasI_true hb'.1
    refine (set_yes i y w p u v F h1 h2 hi hb'.2).mono ?_
    rintro e w' ⟨rfl, q1, q2⟩
    have hlt : i < F.ws.length := by rw [h2.wl]; exact Fo.par_lt hi
    have e1 : ({ F with ws := F.ws.set i y } : Fo).tr = F.tr.set i y := Fo.tr_wt hlt _
    refine ⟨rfl, _, ⟨u, v, _, q1, ⟨h2.len, by simpa using h2.wl, ?_, ?_⟩, ?_, rfl⟩, q2, Grew.refl _ _⟩
    · rw [e1]; exact h2.wf.set
    · rw [e1]; exact h2.fit.set hi (by simpa [fitB] using hb'.2)
    · rw [e1, Tr.setI, hb]; rfl
theorem aPathAdd (x y n : Int) (h : At w p T ks) : Calls Try.prog 29 #[.pointer (some ⟨p, 0, none⟩), .int .i64 x, .int .i64 y, .int .i64 n] w fun e w' => e = .returned (.bool (T.raiseB x y n)) ∧ ∃ ks', At w' p (T.pathAdd x y n) ks' ∧ Keep ks w w' ∧ Grew w ks ks' := by
  obtain ⟨u, v, F, h1, h2, rfl, rfl⟩ := id h
  refine (pathAdd_any x y n w p u v F h1 h2).mono ?_
  rintro e w' ⟨rfl, F', q1, q2, q3, q4⟩
  exact ⟨rfl, _, ⟨u, v, F', q1, q2, q3, rfl⟩, q4, Grew.refl _ _⟩
theorem Ok.kid {F : Fo} (h2 : Ok F) (i : Nat) : decide ((i : Int) ∈ F.ps) = F.tr.kidB i := by
  rw [Bool.eq_iff_iff, decide_eq_true_iff, Tr.kidB, List.any_eq_true]
  constructor
  · intro hm
    obtain ⟨j, hj, e⟩ := List.mem_iff_getElem.1 hm
    exact ⟨j, List.mem_range.2 (Nat.lt_of_lt_of_le hj h2.len), by simp [Fo.tr, List.getD_eq_getElem?_getD, hj, e]⟩
  · rintro ⟨j, _, e⟩
    rw [beq_iff_eq] at e
    have hj : j < F.ps.length := Fo.par_lt (by omega)
    have : F.ps[j] = (i : Int) := by simpa [Fo.tr, List.getD_eq_getElem?_getD, hj] using e
    rw [← this]; exact List.getElem_mem hj
theorem kidB_false {T : Tr} (h : T.Wf) {i : Nat} (hk : T.kidB i = false) : ∀ y, T.par y ≠ (i : Int) := fun y e => by
  rw [Tr.kidB, List.any_eq_false] at hk
  exact hk y (List.mem_range.2 (h.lt y (by omega))) (by simpa using e)
theorem aDrop (x : Int) (h : At w p T ks) : Calls Try.prog 19 #[.pointer (some ⟨p, 0, none⟩), .int .i64 x] w fun e w' => e = .returned (.bool (T.goB x)) ∧ ∃ ks', At w' p (T.dropI x) ks' ∧ Keep ks w w' ∧ Grew w ks ks' := by
  obtain ⟨u, v, F, h1, h2, rfl, rfl⟩ := id h
  cases hb : F.tr.goB x
  · refine (drop_no x w p u v F h1 ?_).mono ?_
    · rw [Tr.goB] at hb
      cases ha : (F.tr.hasI x && (F.tr.par x.toNat == -1))
      · rfl
      · rw [ha] at hb
        obtain ⟨i, rfl, hi⟩ := Tr.hasI_true (Bool.and_eq_true _ _ ▸ ha).1
        rw [h2.kid]; exact hb
    · rintro e w' ⟨rfl, rfl⟩; exact ⟨rfl, by simpa [Tr.dropI, hb] using h.same⟩
  · have hb' := hb
    simp only [Tr.goB, Bool.and_eq_true, Bool.not_eq_true'] at hb'
    obtain ⟨⟨b1, b2⟩, b3⟩ := hb'
    obtain ⟨i, rfl, hi⟩ := Tr.hasI_true b1
    have hr : F.tr.par i = -1 := by simpa using b2
    refine (drop_yes i w p u v F h1 h2 hr ?_).mono ?_
    · have := h2.kid i; rw [b3] at this; simpa using this
    rintro e w' ⟨rfl, q1, q2⟩
    have hlt : i < F.ps.length := Fo.par_lt hi
    have e1 : ({ F with ps := F.ps.set i (-2), ws := F.ws.set i 0 } : Fo).tr = F.tr.drop i := by
      simp only [Fo.tr, getD_set hlt, getD_set (show i < F.ws.length by rw [h2.wl]; exact hlt)]; rfl
    refine ⟨rfl, _, ⟨u, v, _, q1, ⟨by simpa using h2.len, by simpa using h2.wl, ?_, ?_⟩, ?_, rfl⟩, q2, Grew.refl _ _⟩
    · rw [e1]; exact h2.wf.drop (kidB_false h2.wf b3)
    · rw [e1]; exact h2.fit.drop
    · rw [e1]; simp [Tr.dropI, hb]
end
end Go.Proofs.Ytbcibdofcjehcaa
