/- Check of the pool. -/
import Derived.Test.YtbkneonbpcmepaaQG
namespace Go.Proofs.Ytbkneonbpcmepaa
open Go.RowKit Go.Arb
set_option linter.unusedVariables false
set_option linter.unusedSimpArgs false

theorem sum_two (g h : Nat → Nat) (n : Nat) : ((List.range n).map fun i => g i + h i).sum = ((List.range n).map g).sum + ((List.range n).map h).sum := by
  induction n with
  | zero => rfl
  | succ n ih => simp only [List.range_succ, List.map_append, List.sum_append, ih, List.map_cons, List.map_nil, List.sum_cons, List.sum_nil]; omega
theorem sum_none (a c n : Nat) (h : n ≤ a) : ((List.range n).map fun i => if a = i then c else 0).sum = 0 := by
  induction n with
  | zero => rfl
  | succ n ih => rw [List.range_succ, List.map_append, List.sum_append, ih (by omega)]; simp; omega
theorem sum_one (a c n : Nat) (h : a < n) : ((List.range n).map fun i => if a = i then c else 0).sum = c := by
  induction n with
  | zero => omega
  | succ n ih =>
    rw [List.range_succ, List.map_append, List.sum_append]
    by_cases e : a = n
    · subst e; rw [sum_none _ _ _ (Nat.le_refl _)]; simp
    · rw [ih (by omega)]; simp [e]
def cnt (l : List Nat) (j : Nat) : Nat := ((List.range j).map fun i => if i ∈ l then 1 else 0).sum
def hds (L : List (List Nat)) (i : Nat) : Nat := (L.map fun m => if m.head? = some i then m.length else 0).sum
def fnd (L : List (List Nat)) (j : Nat) : Nat := ((List.range j).map (hds L)).sum
theorem cnt_step (l : List Nat) (j : Nat) : cnt l (j + 1) = cnt l j + if j ∈ l then 1 else 0 := by simp [cnt, List.range_succ]
theorem fnd_step (L : List (List Nat)) (j : Nat) : fnd L (j + 1) = fnd L j + hds L j := by simp [fnd, List.range_succ]
theorem cnt_le (l : List Nat) (j : Nat) : cnt l j ≤ j := by
  induction j with
  | zero => simp [cnt]
  | succ j ih => rw [cnt_step]; split <;> omega
theorem cnt_all : ∀ (l : List Nat) (n : Nat), l.Nodup → (∀ v ∈ l, v < n) → cnt l n = l.length
  | [], n, _, _ => by
    induction n with
    | zero => rfl
    | succ n ih => rw [cnt_step, ih (fun v hv => by simp at hv)]; simp
  | a :: l, n, h, hb => by
    rw [List.nodup_cons] at h
    have e : (fun i => if i ∈ a :: l then 1 else 0) = fun i => (if a = i then 1 else 0) + if i ∈ l then 1 else 0 := by
      funext i
      by_cases e : a = i
      · subst e; simp [h.1]
      · have e' : ¬ i = a := fun h => e h.symm
        simp [e, e']
    rw [cnt, e, sum_two, sum_one a 1 n (hb a (by simp))]
    have := cnt_all l n h.2 (fun v hv => hb v (by simp [hv]))
    unfold cnt at this
    rw [this]; simp; omega
theorem fnd_all : ∀ (L : List (List Nat)) (n : Nat), (∀ l ∈ L, l ≠ []) → (∀ v ∈ L.flatten, v < n) → fnd L n = L.flatten.length
  | [], n, _, _ => by
    induction n with
    | zero => rfl
    | succ n ih => rw [fnd_step, ih (fun v hv => by simp at hv)]; simp [hds]
  | m :: L, n, h, hb => by
    obtain ⟨a, l, rfl⟩ := List.exists_cons_of_ne_nil (h m (by simp))
    have e : hds ((a :: l) :: L) = fun i => (if a = i then (a :: l).length else 0) + hds L i := by
      funext i
      simp [hds]
    rw [fnd, e, sum_two, sum_one a _ n (hb a (by simp))]
    have := fnd_all L n (fun l hl => h l (by simp [hl])) (fun v hv => hb v (by rw [List.flatten_cons]; exact List.mem_append.2 (.inr hv)))
    unfold fnd at this
    rw [this, List.flatten_cons, List.length_append]
theorem fnd_mono (L : List (List Nat)) (j k : Nat) : fnd L j ≤ fnd L (j + k) := by
  induction k with
  | zero => exact Nat.le_refl _
  | succ k ih => rw [← Nat.add_assoc, fnd_step]; omega
theorem hds_none {L : List (List Nat)} {i : Nat} (h : i ∉ L.flatten) : hds L i = 0 := by
  induction L with
  | nil => rfl
  | cons m L ih =>
    rw [List.flatten_cons, List.mem_append, not_or] at h
    have e : hds (m :: L) i = (if m.head? = some i then m.length else 0) + hds L i := by simp [hds]
    rw [e, ih h.2, if_neg (fun hm => h.1 (List.mem_of_head? hm))]
theorem hds_at {L : List (List Nat)} {l : List Nat} {i : Nat} (nd : L.flatten.Nodup) (hl : l ∈ L) (hi : i ∈ l) : hds L i = if l.head? = some i then l.length else 0 := by
  induction L with
  | nil => simp at hl
  | cons m L ih =>
    have e : hds (m :: L) i = (if m.head? = some i then m.length else 0) + hds L i := by simp [hds]
    rw [List.flatten_cons, List.nodup_append] at nd
    rw [e]
    rcases List.mem_cons.1 hl with rfl | hl
    · rw [hds_none (fun hc => nd.2.2 i hi i hc rfl), Nat.add_zero]
    · rw [ih nd.2.1 hl, if_neg (fun hm => nd.2.2 i (List.mem_of_head? hm) i (List.mem_flatten.2 ⟨l, hl, hi⟩) rfl), Nat.zero_add]

section
variable {w w' : World} {p : Nat} {v : Value} {xs : List Value} {ad : Nat → Nat} {F F' : List Tp} {A : Se}
theorem Ctx.finds {T : Tp} {u d : Nat} {c : Cx d 0} {x : Tr 0} (q : Ctx w p v xs ad T F A u d c x) : Finds p w (its T.h T.t) := fun k hk W hb => by
  have e : its T.h T.t = itw A.W ad (A.seq u) := q.ti
  rw [e, ids_itw] at hk
  obtain ⟨y, hy, rfl⟩ := List.mem_map.1 hk
  have hyf : y ∈ A.L.flatten := List.mem_flatten.2 ⟨_, q.inL, hy⟩
  have h1 := find_any (y : Int) (q.pb.below hb)
  rw [findV_yes ad (show A.hasI (y : Int) = true from by rw [A.hasI_nat]; simpa using hyf)] at h1
  refine h1.mono ?_
  rintro e' W' ⟨rfl, rfl⟩
  exact ⟨rfl, rfl⟩
theorem Ctx.first {T : Tp} {u d : Nat} {c : Cx d 0} {x : Tr 0} (q : Ctx w p v xs ad T F A u d c x) : pre d 0 c = [] ↔ (A.seq u).head? = some u := by
  have h1 := q.split.1
  have hi := q.mem
  rw [← List.length_eq_zero_iff, ← h1]
  cases hs : A.seq u with
  | nil => rw [hs] at hi; simp at hi
  | cons y l =>
    by_cases e : y = u
    · subst e; simp
    · have e' : (y == u) = false := by simpa using e
      simp [List.idxOf_cons, e, e']
/-- What Check finds at a place of the list. -/
def Look (w wr : World) (p : Nat) (ad : Nat → Nat) (A : Se) (j : Nat) : Prop :=
  wr.cell? ⟨ad j, 3, none⟩ = some (.int .i64 (j : Int)) ∧ hds A.L j ≤ 4194304 ∧
    ((hds A.L j = 0 ∧ Calls Try.prog 64 #[.pointer (some ⟨ad j, 0, none⟩)] wr fun e w' => e = .returned (.pointer none) ∧ ∃ q, w' = wr.drewN q) ∨
     ∃ B, (Calls Try.prog 64 #[.pointer (some ⟨ad j, 0, none⟩)] wr fun e w' => e = .returned (.pointer (some ⟨B, 0, none⟩)) ∧ ∃ q, w' = wr.drewN q) ∧
      ∀ q, Calls Try.prog 65 #[.pointer (some ⟨p, 0, none⟩), .pointer (some ⟨B, 0, none⟩)] (wr.drewN q) fun e w' => e = .returned (.bool true) ∧ Below wr.heap.size wr w' ∧ w'.cell? ⟨B, 5, none⟩ = some (.int .i64 (hds A.L j : Nat)))
theorem PB.look (h : PB w p v xs ad F A) {j : Nat} (hj : j ∈ A.L.flatten) {wr : World} (hb : Below w.heap.size w wr) : Look w wr p ad A j := by
  obtain ⟨T, F1, d, c, x, q⟩ := (h.below hb).ctx hj
  have hh := hds_at h.nd q.inL q.mem
  have hlen := q.len
  have m0 := ((mem_plug d 0 c x).1 (by rw [q.pl]; exact q.own.mem)).1
  obtain ⟨_, _, _, i3, _⟩ := Kn.cells m0.root
  rw [q.a, show itm 0 x = ((Lf.v x : Nat) : Int) from rfl, q.v] at i3
  have tt := topOfFirst_any T wr q.own d c x q.pl
  rw [q.a] at tt
  refine ⟨i3, by rw [hh]; split <;> omega, ?_⟩
  by_cases e : (A.seq j).head? = some j
  · right
    rw [if_pos (q.first.2 e)] at tt
    rw [hh, if_pos e]
    refine ⟨adr T.h T.t, tt, fun k => ?_⟩
    have o := (q.drewN k).own
    refine (knotFits_any p T.h T.t (.pointer none) 2 (wr.drewN k) o.mem o.nd o.wf (.inl ⟨rfl, Nat.le_refl _⟩) o.len (by have := height_le o.wf (Nat.le_refl _) o.len; omega) (q.drewN k).finds).mono ?_
    rintro e' w' ⟨rfl, hb'⟩
    refine ⟨rfl, below_undrew hb', ?_⟩
    have := (Kn.cells ((q.drewN k).below hb').kn).2.2.2.2.2.1
    rw [this, ofR_c, List.length_map]
  · left
    rw [if_neg (fun h' => e (q.first.1 h'))] at tt
    exact ⟨by rw [hh, if_neg e], tt⟩
set_option maxRecDepth 100000 in
set_option maxHeartbeats 2000000 in
theorem check_any (h : PB w p v xs ad F A) : Calls Try.prog 41 #[.pointer (some ⟨p, 0, none⟩)] w fun e w' => e = .returned (.bool true) ∧ Below w.heap.size w w' := by
  obtain ⟨c0, c1, _, _⟩ := h.head
  have hn := h.n
  have xn := h.xn
  have LK := hide (fun j (hj : j ∈ A.L.flatten) wr (hb : Below w.heap.size w wr) => h.look hj hb)
  obtain ⟨y, cap, rfl, k1, k2, k3⟩ := row_form h.row
  have RD := hide (fun j (hj : j < xs.length) wr (hb : Below w.heap.size w wr) => (show ∃ g, y = some ⟨g, 0, none⟩ ∧ wr.cell? ⟨g, j, none⟩ = some (if j ∈ A.L.flatten then .pointer (some ⟨ad j, 0, none⟩) else .pointer none) from by
    obtain ⟨g, rfl, kl, _, kc⟩ := k3 (by omega)
    refine ⟨g, rfl, ?_⟩
    rw [hb.cell (p := ⟨g, j, none⟩) kl, (kc j (by omega)).1, h.cel j hj]
    rfl))
  have e1 := cnt_all A.L.flatten xs.length h.nd h.lt
  have e2 := fnd_all A.L xs.length h.ne h.lt
  have EE := hide (e1.trans e2.symm)
  have fb := hide (fun j (hj : j ≤ xs.length) => (show fnd A.L j ≤ 4194304 from by
    obtain ⟨k, hk⟩ := Nat.le.dest hj
    have h1 := fnd_mono A.L j k
    rw [hk, e2] at h1
    have h2 := length_le h.nd h.lt
    omega))
  have g1 : decide ((4194304 : Int) < (A.n : Int)) = false := decide_eq_false (by omega)
  have g2 : decide ((A.n : Int) < (xs.length : Int)) = false := decide_eq_false (by omega)
  have g3 : decide (A.n < xs.length) = false := decide_eq_false (by omega)
  have hx4 : xs.length ≤ 4194304 := by omega
  clear h k3 e1 e2
  go_enter Try.func41, Try.ntmps41
  go_wp2_with fail
  go_quiet (fail)
  go_wp2_with fail
  have B0 := hide (Below.refl w.heap.size w)
  go_loopg [3, 4, 34] xs.length (fun gk v3 v4 v5 w' => ∃ j : Nat, j + gk = xs.length ∧ v3 = .int .i64 (cnt A.L.flatten j : Nat) ∧ v4 = .int .i64 (fnd A.L j : Nat) ∧ v5 = .int .i64 (j : Int) ∧ Below w.heap.size w w')
  case atStart => exact ⟨0, by omega, rfl, rfl, rfl, below_drewN (Below.refl _ _) _⟩
  case round =>
    obtain ⟨j, hj, rfl, rfl, rfl, hb⟩ := hrel
    have HB := hide hb
    by_cases h8 : j < xs.length
    · obtain ⟨g, rfl, e1⟩ := unhide RD j h8 _ hb
      have s1 := cnt_step A.L.flatten j
      have s2 := fnd_step A.L j
      have cl := cnt_le A.L.flatten j
      have fl := unhide fb (j + 1) (by omega)
      have i8 : (j : Int) < (xs.length : Int) := by omega
      rw [s2] at fl
      by_cases hm : j ∈ A.L.flatten
      · rw [if_pos hm] at e1 s1
        obtain ⟨e3, e4, L⟩ := unhide LK j hm _ hb
        generalize cnt A.L.flatten j = cc at *
        generalize fnd A.L j = ff at *
        generalize hds A.L j = dd at *
        have S1 := hide s1
        have S2 := hide s2
        clear s1 s2 hb hm
        generalize ad j = a at *
        rcases L with ⟨z, T1⟩ | ⟨B, T1, K1⟩
        · have T1 := hide T1
          have Z := hide z
          clear z
          go_wp2_with fail
          refine (unhide T1).mono ?_
          rintro e w2 ⟨rfl, q, rfl⟩
          clear T1
          go_wp2
          go_roundg (gk - 1)
          case rel => exact ⟨j + 1, by omega, by rw [unhide S1]; simp, by rw [unhide S2, unhide Z]; simp, rfl, below_drewN (unhide HB) q⟩
          all_goals omega
        · have T1 := hide T1
          have K1 := hide K1
          go_wp2_with fail
          refine (unhide T1).mono ?_
          rintro e w2 ⟨rfl, q, rfl⟩
          clear T1
          go_wp2_with fail
          refine (unhide K1 q).mono ?_
          rintro e w3 ⟨rfl, hb3, e5⟩
          have H3 := hide ((unhide HB).trans (hb3.mono (unhide HB).size))
          clear hb3 K1
          go_wp2
          go_roundg (gk - 1)
          case rel => exact ⟨j + 1, by omega, by rw [unhide S1]; simp, by rw [unhide S2]; simp, rfl, unhide H3⟩
          all_goals omega
      · rw [if_neg hm] at e1 s1
        rw [hds_none hm] at s2
        generalize cnt A.L.flatten j = cc at *
        generalize fnd A.L j = ff at *
        have S1 := hide s1
        have S2 := hide s2
        clear s1 s2 hb hm fl
        go_wp2
        go_roundg (gk - 1)
        case rel => exact ⟨j + 1, by omega, by rw [unhide S1]; simp, by rw [unhide S2]; simp, rfl, unhide HB⟩
        all_goals omega
    · have hje : j = xs.length := by omega
      subst hje
      rw [unhide EE]
      generalize fnd A.L xs.length = ff at *
      clear hb
      go_wp2
      go_ret
      exact ⟨rfl, unhide HB⟩
end
end Go.Proofs.Ytbkneonbpcmepaa
