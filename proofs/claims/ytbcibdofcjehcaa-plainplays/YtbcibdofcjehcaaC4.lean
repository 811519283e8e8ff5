import Derived.Test.YtbcibdofcjehcaaC3
namespace Go.Proofs.Ytbcibdofcjehcaa
open Go.RowKit Go.Arb
set_option linter.unusedVariables false

def Tr.linkB (T : Tr) (c p : Int) : Bool := (T.hasI c && (T.par c.toNat == -1)) && T.hasI p && (T.rootI p != c)

set_option maxHeartbeats 800000 in
theorem link_no (x y : Int) (w : World) (p : Nat) (u v : Value) (F : Fo) (h : FoIn w p u v F) (ho : Ok F) (hl : F.tr.linkB x y = false) :
    Calls Try.prog 21 #[.pointer (some ⟨p, 0, none⟩), .int .i64 x, .int .i64 y] w fun e w' => e = .returned (.bool false) ∧ w = w' := by
  have h1 := hide (isRoot_any x w p u v F h)
  have h2 := hide (has_any y w p u v F h)
  have h3 := hide (root_any y w p u v F h ho)
  unfold Tr.linkB at hl
  clear h ho
  generalize (F.tr.hasI x && (F.tr.par x.toNat == -1)) = a at *
  generalize F.tr.hasI y = b at *
  generalize F.tr.rootI y = r at *
  cases a
  · clear hl
    go_enter Try.func21, Try.ntmps21
    go_wp2_with fail
    refine (unhide h1).mono ?_
    rintro e w' ⟨rfl, rfl⟩
    go_wp2
    go_ret
    exact ⟨rfl, rfl⟩
  · cases b
    · clear hl
      go_enter Try.func21, Try.ntmps21
      go_wp2_with fail
      refine (unhide h1).mono ?_
      rintro e w' ⟨rfl, rfl⟩
      go_wp2_with fail
      refine (unhide h2).mono ?_
      rintro e w' ⟨rfl, rfl⟩
      go_wp2
      go_ret
      exact ⟨rfl, rfl⟩
    · simp at hl
      subst hl
      go_enter Try.func21, Try.ntmps21
      go_wp2_with fail
      refine (unhide h1).mono ?_
      rintro e w' ⟨rfl, rfl⟩
      go_wp2_with fail
      refine (unhide h2).mono ?_
      rintro e w' ⟨rfl, rfl⟩
      go_wp2_with fail
      refine (unhide h3).mono ?_
      rintro e w' ⟨rfl, rfl⟩
      go_wp2
      go_ret
      exact ⟨rfl, rfl⟩

set_option maxHeartbeats 800000 in
theorem link_yes (i q : Nat) (w : World) (p : Nat) (u v : Value) (F : Fo) (h : FoIn w p u v F) (ho : Ok F) (hi : F.tr.par i = -1) (hq : F.tr.par q ≠ -2) (hr : F.tr.rootI q ≠ (i : Int)) :
    Calls Try.prog 21 #[.pointer (some ⟨p, 0, none⟩), .int .i64 (i : Int), .int .i64 (q : Int)] w fun e w' => e = .returned (.bool true) ∧ FoIn w' p u v { F with ps := F.ps.set i (q : Int) } ∧ Keep (fp p u v) w w' := by
  have h1 := hide (isRoot_any i w p u v F h)
  have h2 := hide (has_any q w p u v F h)
  have h3 := hide (root_any q w p u v F h ho)
  rw [F.tr.hasI_nat, Int.toNat_natCast, hi] at h1
  rw [F.tr.hasI_nat, show (F.tr.par q != -2) = true from by simpa using hq] at h2
  have hlt := Fo.par_lt (F := F) (i := i) (by omega)
  obtain ⟨c0, c1, c2, _⟩ := h.cells
  obtain ⟨g, cap, rfl, k1, k2, k3, k4, _, k5⟩ := h.par i hlt
  obtain ⟨d, fd⟩ := k5 i hlt
  have R := hide (h.setPar rfl i (q : Int))
  generalize F.tr.rootI q = r at *
  have hr' : (r == (i : Int)) = false := by rw [beq_eq_false_iff_ne]; exact hr
  clear hr hq ho h k5 hi
  generalize F.ps.length = n at *
  unfold maxLen at k2
  have e1 : (0 : Int) ≤ (i : Int) := by omega
  have e2 : (i : Int) < (n : Int) := by omega
  go_enter Try.func21, Try.ntmps21
  go_wp2_with fail
  refine (unhide h1).mono ?_
  rintro e w' ⟨rfl, rfl⟩
  go_wp2_with fail
  refine (unhide h2).mono ?_
  rintro e w' ⟨rfl, rfl⟩
  go_wp2_with fail
  refine (unhide h3).mono ?_
  rintro e w' ⟨rfl, rfl⟩
  go_wp2
  go_ret
  exact ⟨rfl, unhide R⟩

set_option maxHeartbeats 800000 in
theorem set_no (x y : Int) (w : World) (p : Nat) (u v : Value) (F : Fo) (h : FoIn w p u v F) (hl : (F.tr.hasI x && fitB y) = false) :
    Calls Try.prog 27 #[.pointer (some ⟨p, 0, none⟩), .int .i64 x, .int .i64 y] w fun e w' => e = .returned (.bool false) ∧ w = w' := by
  have h1 := hide (has_any x w p u v F h)
  have h2 := hide (fits_any y w)
  clear h
  generalize F.tr.hasI x = a at *
  generalize fitB y = b at *
  cases a
  · clear hl
    go_enter Try.func27, Try.ntmps27
    go_wp2_with fail
    refine (unhide h1).mono ?_
    rintro e w' ⟨rfl, rfl⟩
    go_wp2
    go_ret
    exact ⟨rfl, rfl⟩
  · simp at hl
    subst hl
    go_enter Try.func27, Try.ntmps27
    go_wp2_with fail
    refine (unhide h1).mono ?_
    rintro e w' ⟨rfl, rfl⟩
    go_wp2_with fail
    refine (unhide h2).mono ?_
    rintro e w' ⟨rfl, rfl⟩
    go_wp2
    go_ret
    exact ⟨rfl, rfl⟩

set_option maxHeartbeats 800000 in
theorem set_yes (i : Nat) (y : Int) (w : World) (p : Nat) (u v : Value) (F : Fo) (h : FoIn w p u v F) (ho : Ok F) (hi : F.tr.par i ≠ -2) (hy : fitB y = true) :
    Calls Try.prog 27 #[.pointer (some ⟨p, 0, none⟩), .int .i64 (i : Int), .int .i64 y] w fun e w' => e = .returned (.bool true) ∧ FoIn w' p u v { F with ws := F.ws.set i y } ∧ Keep (fp p u v) w w' := by
  have h1 := hide (has_any i w p u v F h)
  have h2 := hide (fits_any y w)
  rw [F.tr.hasI_nat, show (F.tr.par i != -2) = true from by simpa using hi] at h1
  rw [hy] at h2
  have hlt : i < F.ws.length := by rw [ho.wl]; exact Fo.par_lt hi
  obtain ⟨c0, c1, c2, _⟩ := h.cells
  obtain ⟨g, cap, rfl, k1, k2, k3, k4, _, k5⟩ := h.wt i hlt
  obtain ⟨d, fd⟩ := k5 i hlt
  have R := hide (h.setWt rfl i y)
  clear ho h k5 hi hy
  generalize F.ws.length = n at *
  unfold maxLen at k2
  have e1 : (0 : Int) ≤ (i : Int) := by omega
  have e2 : (i : Int) < (n : Int) := by omega
  go_enter Try.func27, Try.ntmps27
  go_wp2_with fail
  refine (unhide h1).mono ?_
  rintro e w' ⟨rfl, rfl⟩
  go_wp2_with fail
  refine (unhide h2).mono ?_
  rintro e w' ⟨rfl, rfl⟩
  go_wp2
  go_ret
  exact ⟨rfl, unhide R⟩

set_option maxHeartbeats 800000 in
theorem index_any (z : Int) (w : World) (u : Value) (l : List Int) (h : w.ownsRow 0 3 1 u l.length (nums l)) :
    Calls Try.prog 73 #[u, .int .i64 z] w fun e w' => (∃ r : Int, e = .returned (.int .i64 r) ∧ (z ∈ l → 0 ≤ r) ∧ (z ∉ l → r = -1)) ∧ w = w' := by
  obtain ⟨x, cap, rfl, k1, k2, k9⟩ := ints_form h
  have HC := hide k9
  clear k9 h
  generalize hn : l.length = n at k1 ⊢
  have HN := hide hn
  clear hn
  unfold maxLen at k2
  go_enter Try.func73, Try.ntmps73
  go_wp2
  go_loopw [8] (fun a w' => ∃ k : Nat, k ≤ n ∧ a = .int .i64 (k : Int) ∧ w' = w ∧ Hid (∀ j (hj : j < l.length), j < k → l[j] ≠ z)) (fun a _ => n - (intOf a).toNat)
  case atStart => exact ⟨0, by omega, rfl, rfl, fun j _ hj => by omega⟩
  case round =>
    obtain ⟨k, hk, rfl, rfl, HK⟩ := hrel
    by_cases hlt : k < n
    · have hkl : k < l.length := by rw [unhide HN]; exact hlt
      obtain ⟨g, rfl, hg, _, hc⟩ := unhide HC (by omega)
      obtain ⟨d, _⟩ := hc k hkl
      have hm : l[k] ∈ l := List.getElem_mem hkl
      have HM := hide hm
      have hgen : Hid (l[k] = l[k]) := rfl
      generalize hy : l[k] = y at d
      have HY := hide hy
      have e1 : (0 : Int) ≤ (k : Int) := by omega
      have e2 : (k : Int) < (n : Int) := by omega
      clear hc hm hy
      by_cases hz : z = y
      · subst hz
        go_wp2
        go_ret
        exact ⟨⟨k, rfl, fun _ => e1, fun hn => absurd (unhide HY ▸ unhide HM) hn⟩, rfl⟩
      · have hz' : (z == y) = false := by rw [beq_eq_false_iff_ne]; exact hz
        go_wp2
        go_roundw
        case rel =>
          refine ⟨k + 1, by omega, by go_num, by first | trivial | rfl, fun j hj hjk => ?_⟩
          by_cases hjk' : j = k
          · subst hjk'; rw [unhide HY]; exact fun e => hz e.symm
          · exact unhide HK j hj (by omega)
        case measure => simp [intOf]; omega
    · have : k = n := by omega
      subst this
      go_wp2
      go_ret
      refine ⟨⟨-1, rfl, fun hm => ?_, fun _ => rfl⟩, rfl⟩
      obtain ⟨j, hj, e⟩ := List.mem_iff_getElem.1 hm
      exact absurd e (unhide HK j hj (by rw [← unhide HN]; exact hj))

set_option maxHeartbeats 800000 in
theorem contains_any (z : Int) (w : World) (u : Value) (l : List Int) (h : w.ownsRow 0 3 1 u l.length (nums l)) :
    Calls Try.prog 56 #[u, .int .i64 z] w fun e w' => e = .returned (.bool (decide (z ∈ l))) ∧ w = w' := by
  have h1 := hide (index_any z w u l h)
  clear h
  go_enter Try.func56, Try.ntmps56
  go_wp2_with fail
  refine (unhide h1).mono ?_
  rintro e w' ⟨⟨r, rfl, r1, r2⟩, rfl⟩
  have HR := hide (And.intro r1 r2)
  clear r1 r2
  go_wp2
  go_ret
  refine ⟨?_, rfl⟩
  by_cases hm : z ∈ l
  · have := (unhide HR).1 hm
    simp [hm, this]
  · have := (unhide HR).2 hm
    simp [hm, this]

/-- May a node go? -/
def Tr.dropB (T : Tr) (v : Int) : Bool := (T.hasI v && (T.par v.toNat == -1))

set_option maxHeartbeats 800000 in
theorem drop_no (x : Int) (w : World) (p : Nat) (u v : Value) (F : Fo) (h : FoIn w p u v F) (hl : ((F.tr.hasI x && (F.tr.par x.toNat == -1)) && !decide (x ∈ F.ps)) = false) :
    Calls Try.prog 19 #[.pointer (some ⟨p, 0, none⟩), .int .i64 x] w fun e w' => e = .returned (.bool false) ∧ w = w' := by
  have h1 := hide (isRoot_any x w p u v F h)
  have h2 := hide (contains_any x w u F.ps h.rp)
  obtain ⟨c0, c1, c2, _⟩ := h.cells
  clear h
  generalize (F.tr.hasI x && (F.tr.par x.toNat == -1)) = a at *
  generalize decide (x ∈ F.ps) = b at *
  cases a
  · clear hl
    go_enter Try.func19, Try.ntmps19
    go_wp2_with fail
    refine (unhide h1).mono ?_
    rintro e w' ⟨rfl, rfl⟩
    go_wp2
    go_ret
    exact ⟨rfl, rfl⟩
  · simp at hl
    subst hl
    go_enter Try.func19, Try.ntmps19
    go_wp2_with fail
    refine (unhide h1).mono ?_
    rintro e w' ⟨rfl, rfl⟩
    go_wp2_with fail
    refine (unhide h2).mono ?_
    rintro e w' ⟨rfl, rfl⟩
    go_wp2
    go_ret
    exact ⟨rfl, rfl⟩

set_option maxHeartbeats 800000 in
theorem drop_yes (i : Nat) (w : World) (p : Nat) (u v : Value) (F : Fo) (h : FoIn w p u v F) (ho : Ok F) (hi : F.tr.par i = -1) (hm : (i : Int) ∉ F.ps) :
    Calls Try.prog 19 #[.pointer (some ⟨p, 0, none⟩), .int .i64 (i : Int)] w fun e w' => e = .returned (.bool true) ∧ FoIn w' p u v { F with ps := F.ps.set i (-2), ws := F.ws.set i 0 } ∧ Keep (fp p u v) w w' := by
  have h1 := hide (isRoot_any i w p u v F h)
  have h2 := hide (contains_any i w u F.ps h.rp)
  rw [F.tr.hasI_nat, Int.toNat_natCast, hi] at h1
  rw [show decide ((i : Int) ∈ F.ps) = false from by simpa using hm] at h2
  have hlt := Fo.par_lt (F := F) (i := i) (by omega)
  have hlt' : i < F.ws.length := by rw [ho.wl]; exact hlt
  obtain ⟨c0, c1, c2, _⟩ := h.cells
  obtain ⟨g, cap, rfl, k1, k2, k3, k4, o1, k5⟩ := h.par i hlt
  obtain ⟨g', cap', rfl, k1', k2', k3', k4', o2, k5'⟩ := h.wt i hlt'
  have hgg : g ≠ g' := fun e => h.uv g (by rw [o1]; simp) (by rw [o2, e]; simp)
  obtain ⟨d, fd⟩ := k5 i hlt
  obtain ⟨d', fd'⟩ := k5' i hlt'
  have R1 := h.setPar rfl i (-2)
  have R2 := R1.1.setWt rfl i 0
  have R := hide (And.intro R2.1 (R1.2.trans R2.2 (fun _ hk => .inl hk)))
  clear h k5 k5' hi hm R1 R2 o1 o2
  have HO := hide ho
  clear ho
  generalize F.ps.length = n at *
  generalize F.ws.length = n' at *
  unfold maxLen at k2 k2'
  have e1 : (0 : Int) ≤ (i : Int) := by omega
  have e2 : (i : Int) < (n : Int) := by omega
  have e2' : (i : Int) < (n' : Int) := by omega
  go_enter Try.func19, Try.ntmps19
  go_wp2_with fail
  refine (unhide h1).mono ?_
  rintro e w' ⟨rfl, rfl⟩
  go_wp2_with fail
  refine (unhide h2).mono ?_
  rintro e w' ⟨rfl, rfl⟩
  go_wp2
  go_ret
  exact ⟨rfl, unhide R⟩
end Go.Proofs.Ytbcibdofcjehcaa
