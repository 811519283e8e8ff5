import Derived.Test.YtbcibdofcjehcaaC9
namespace Go.Proofs.Ytbcibdofcjehcaa
open Go.RowKit Go.Arb
set_option linter.unusedVariables false
set_option linter.unusedSimpArgs false

theorem Try.info78 : (Try.prog.info? 78).map (fun i => (i.zero, i.size, i.bytes)) = some (some (.int .u8 0), 1, 1) := by kernel_rfl

/-- What the places say, as far as they say it: 1: v is on the way up, 2: it isn't. -/
structure Pl (T : Tr) (v : Nat) (P : Nat → Nat) : Prop where
  lt : ∀ x, P x < 3
  at' : P v = 1
  yes : ∀ x, P x = 1 → v ∈ T.up x
  no : ∀ x, P x = 2 → v ∉ T.up x

def plV (P : Nat → Nat) : Nat → Value := fun x => .int .u8 (P x : Int)

theorem plV_set (P : Nat → Nat) (i k : Nat) : (fun j => if j = i then Value.int .u8 (k : Int) else plV P j) = plV (updF P i k) := by
  funext j
  by_cases e : j = i
  · simp [e, plV, updF]
  · simp [e, plV, updF]


/-- Where the second walk stands. -/
structure Tl (T : Tr) (i0 i fd : Nat) (P P' : Nat → Nat) (l0 l : List Nat) : Prop where
  pl : Pl T i0 P'
  mono : ∀ x, P x ≠ 0 → P' x ≠ 0
  up : l = [] ∨ ∃ y, Up T.par y l
  fd : l ≠ [] → (i0 ∈ l ↔ fd = 1)
  done : P' i ≠ 0 ∨ l = l0

section
variable {T : Tr} {i0 i fd y : Nat} {P P' : Nat → Nat} {l0 t : List Nat}
theorem Tl.upy (h : Tl T i0 i fd P P' l0 (y :: t)) : Up T.par y (y :: t) := by
  rcases h.up with e | ⟨y', hu⟩
  · simp at e
  · obtain ⟨t', e⟩ := hu.head
    simp at e
    rw [← e.1] at hu
    exact hu
theorem Tl.next (h : Tl T i0 i fd P P' l0 (y :: t)) : T.par y = hdI t ∧ T.par y ≠ -2 := by
  refine ⟨?_, h.upy.there⟩
  rcases h.upy.next with ⟨e, rfl⟩ | ⟨q, e, hq⟩
  · exact e
  · obtain ⟨t', rfl⟩ := hq.head
    exact e
theorem Tl.stop1 (h : Tl T i0 i fd P P' l0 []) (hl : l0 ≠ []) : P' i ≠ 0 := by
  rcases h.done with h1 | h1
  · exact h1
  · exact absurd h1.symm hl
theorem Tl.stop2 (h : Tl T i0 i fd P P' l0 (y :: t)) (h0 : P' y ≠ 0) (hl : hdI l0 = (i : Int)) : P' i ≠ 0 := by
  rcases h.done with h1 | h1
  · exact h1
  · rw [← h1] at hl
    have : y = i := Int.ofNat_inj.1 hl
    rw [← this]; exact h0
theorem Tl.step (wf : T.Wf) (h : Tl T i0 i fd P P' l0 (y :: t)) (h0 : P' y = 0) (hl : hdI l0 = (i : Int)) (hf : 0 < fd ∧ fd < 3) : Tl T i0 i fd P (updF P' y fd) l0 t := by
  have hne : i0 ≠ y := fun e => by have := h.pl.at'; rw [e, h0] at this; exact absurd this (by decide)
  have hu := h.upy
  have hT := wf.eq hu
  have hfd := h.fd (by simp)
  refine ⟨⟨fun x => ?_, ?_, fun x hx => ?_, fun x hx => ?_⟩, fun x hx => ?_, ?_, fun hn => ?_, ?_⟩
  · by_cases e : x = y
    · subst e; simp [updF]; exact hf.2
    · simp [updF, e]; exact h.pl.lt x
  · rw [updF_other _ _ hne]; exact h.pl.at'
  · by_cases e : x = y
    · subst e; rw [updF_same] at hx; rw [hT]; exact hfd.2 hx
    · rw [updF_other _ _ e] at hx; exact h.pl.yes x hx
  · by_cases e : x = y
    · subst e; rw [updF_same] at hx; rw [hT]; exact fun hm => by have := hfd.1 hm; omega
    · rw [updF_other _ _ e] at hx; exact h.pl.no x hx
  · by_cases e : x = y
    · subst e; rw [updF_same]; omega
    · rw [updF_other _ _ e]; exact h.mono x hx
  · rcases hu.next with ⟨_, e⟩ | ⟨q, _, hq⟩
    · exact .inl e
    · exact .inr ⟨q, hq⟩
  · rw [← hfd]; simp [hne]
  · left
    rcases h.done with h1 | h1
    · by_cases e : i = y
      · subst e; exact absurd h0 h1
      · rw [updF_other _ _ e]; exact h1
    · rw [← h1] at hl
      have : y = i := Int.ofNat_inj.1 hl
      rw [← this, updF_same]; omega
end

set_option maxHeartbeats 2000000 in
theorem tell_any (i0 i : Nat) (w : World) (p g n cap : Nat) (u v : Value) (F : Fo) (P : Nat → Nat) (h : FoIn w p u v F) (ho : Ok F) (hn : F.ps.length = n) (hrow : w.rowIs g 78 n (plV P)) (hg : g ∉ fp p u v) (hi : F.tr.par i ≠ -2) (hP : Pl F.tr i0 P) :
    Calls Try.prog 74 #[.pointer (some ⟨p, 0, none⟩), .slice (some ⟨g, 0, none⟩) n cap, .int .i64 (i : Int)] w fun e w' => e = .returned (.tuple #[]) ∧ ∃ P', w'.rowIs g 78 n (plV P') ∧ Keep [g] w w' ∧ Pl F.tr i0 P' ∧ P' i ≠ 0 ∧ ∀ x, P x ≠ 0 → P' x ≠ 0 := by
  subst hn
  obtain ⟨c0, c1, c2, _⟩ := h.cells
  have h1 := Fo.par_lt hi
  obtain ⟨gu, cu, rfl, k1, k2, k3, k4, ou, k5⟩ := h.par i h1
  have hgu : gu ≠ g := fun e => hg (by rw [← e]; simp [fp, own, Value.ownBlock])
  have hgp : p ≠ g := fun e => hg (by rw [← e]; simp [fp])
  have hp : p < w.heap.size := blk_lt h.blk
  have HC := hide (And.intro k5 (fun j (hj : F.tr.par j ≠ -2) => Fo.par_lt hj))
  have HU := hide (ho.wf.spec hi)
  have HWF := hide ho.wf
  have HP := hide hP
  have HR := hide hrow
  have hgl : g < w.heap.size := hrow.lt
  clear h ho k5 hP hg hi ou c0 c2 hrow
  generalize hT : F.tr = T at *
  clear hT
  generalize F.ps.length = n at *
  unfold maxLen at k2
  have HI : Hid (∃ l0, T.up i = l0) := ⟨_, rfl⟩
  obtain ⟨l0, hl0⟩ := HI.out
  have HUP := hide hl0
  rw [hl0] at HU
  clear hl0 HI
  go_enter Try.func74, Try.ntmps74
  go_wp2
  go_loopg [6] l0.length (fun gk a w' => ∃ (y : Nat) (l : List Nat), a = .int .i64 (y : Int) ∧ w' = w ∧ Hid (Up T.par y l ∧ l.length = gk ∧ (i0 ∈ T.up i ↔ i0 ∈ l)))
  case atStart => exact ⟨i, l0, rfl, rfl, unhide HU, rfl, by rw [unhide HUP]⟩
  case round =>
    obtain ⟨y, l, rfl, hw, HY⟩ := hrel
    obtain rfl : w = wr := hw.symm
    obtain ⟨hy, hgk, hl⟩ := unhide HY
    have hyn := (unhide HC).2 y hy.there
    have d := ((unhide HC).1 y hyn).1
    have d3 := (unhide HR).cell hyn
    unfold plV at d3
    have e1 : (0 : Int) ≤ (y : Int) := by omega
    have e2 : (y : Int) < (n : Int) := by omega
    have hT1 := (unhide HWF).eq hy
    by_cases hstop : P y = 0 ∧ T.par y ≠ -1
    · obtain ⟨hp0, hnr⟩ := hstop
      obtain ⟨t, rfl⟩ := hy.head
      rcases hy.next with ⟨hr, rfl⟩ | ⟨q, hr, hq'⟩
      · exact absurd hr hnr
      · rw [hr] at d
        rw [hp0] at d3
        have hqn : ((q : Int) == -1) = false := by rw [beq_eq_false_iff_ne]; omega
        have hne : i0 ≠ y := fun e => by have := (unhide HP).at'; rw [e, hp0] at this; exact absurd this (by decide)
        have HQ := hide (And.intro hq' (And.intro hgk (show i0 ∈ T.up i ↔ i0 ∈ t from by rw [hl]; simp [hne])))
        clear hl hgk hy HY hr hq' hp0 hnr hne hT1
        go_wp2
        go_roundg (gk - 1)
        case rel =>
          obtain ⟨q1, q2, q3⟩ := unhide HQ
          exact ⟨q, t, rfl, rfl, q1, by simp at q2; omega, q3⟩
        all_goals
          obtain ⟨q1, q2, q3⟩ := unhide HQ
          simp at q2
          omega
    · -- what is found
      have hf : Hid ((P y = 0 ∧ T.par y = -1 ∧ i0 ∉ T.up i) ∨ (P y = 1 ∧ i0 ∈ T.up i) ∨ (P y = 2 ∧ i0 ∉ T.up i)) := by
        have l3 := (unhide HP).lt y
        have hy1 := (unhide HP).yes y
        have hy2 := (unhide HP).no y
        rw [hT1] at hy1 hy2
        by_cases z0 : P y = 0
        · have hr : T.par y = -1 := Classical.byContradiction fun hn => hstop ⟨z0, hn⟩
          refine .inl ⟨z0, hr, ?_⟩
          rw [hl]
          rw [(unhide HWF).up_root hr] at hT1
          rw [← hT1]
          intro hm
          simp at hm
          have := (unhide HP).at'
          rw [hm, z0] at this
          exact absurd this (by decide)
        · by_cases z1 : P y = 1
          · exact .inr (.inl ⟨z1, by rw [hl]; exact hy1 z1⟩)
          · exact .inr (.inr ⟨by omega, by rw [hl]; exact hy2 (by omega)⟩)
      clear hstop HY hl hgk hy hT1
      have HL0 := hide (show hdI l0 = (i : Int) from by obtain ⟨t, e⟩ := (unhide HU).head; rw [e]; rfl)
      have hf2 : Hid ((P y = 0 ∧ T.par y = -1 ∧ Hid (0 < 2 ∧ 2 < 3 ∧ (2 = 1 ↔ i0 ∈ l0))) ∨ (P y ≠ 0 ∧ Hid (0 < P y ∧ P y < 3 ∧ (P y = 1 ↔ i0 ∈ l0)))) := by
        rw [← unhide HUP]
        rcases unhide hf with ⟨z0, hr, hno⟩ | ⟨z0, hyes⟩ | ⟨z0, hno⟩
        · exact .inl ⟨z0, hr, by decide, by decide, by simp [hno]⟩
        · exact .inr ⟨by omega, by rw [z0]; exact ⟨by decide, by decide, by simp [hyes]⟩⟩
        · exact .inr ⟨by omega, by rw [z0]; exact ⟨by decide, by decide, by simp [hno]⟩⟩
      clear hf
      rcases unhide hf2 with ⟨z0, hr, HFD⟩ | ⟨z0, HFD⟩
      · rw [z0] at d3
        rw [hr] at d
        clear hf2 hr z0
        go_wp2
        go_loopg [2] l0.length (fun gk a w' => ∃ (l : List Nat) (P' : Nat → Nat), a = .int .i64 (hdI l) ∧ l.length = gk ∧ Hid (w'.rowIs g 78 n (plV P') ∧ Keep [g] w w' ∧ Tl T i0 i 2 P P' l0 l))
        case atStart => exact ⟨l0, P, by rw [unhide HL0], rfl, unhide HR, Keep.refl _ _, unhide HP, fun _ h => h, .inr ⟨i, unhide HU⟩, fun _ => (unhide HFD).2.2.symm, .inr rfl⟩
        case round =>
          obtain ⟨l, P', rfl, hgk, HK⟩ := hrel
          obtain ⟨r1, r2, r3⟩ := unhide HK
          cases l with
          | nil =>
            have R := hide (And.intro r1 (And.intro r2 (And.intro r3.pl (And.intro (r3.stop1 (unhide HU).ne) r3.mono))))
            clear r1 r2 r3 HK hgk
            rw [show hdI [] = -1 from rfl]
            go_wp2
            go_end0
            exact ⟨rfl, P', unhide R⟩
          | cons y t =>
            obtain ⟨n1, n2⟩ := r3.next
            have hyn := (unhide HC).2 y n2
            have d := ((unhide HC).1 y hyn).1
            have d3 := r1.cell hyn
            have f3 := r1.frozen y
            have c1' := c1
            rw [← r2.cell (p := ⟨p, 1, none⟩) hp (by simpa using hgp)] at c1'
            rw [← r2.cell (p := ⟨gu, y, none⟩) k3 (by simpa using hgu)] at d
            unfold plV at d3
            rw [n1] at d
            rw [show hdI (y :: t) = (y : Int) from rfl]
            have hyn1 : ((y : Int) == -1) = false := by rw [beq_eq_false_iff_ne]; omega
            have e1 : (0 : Int) ≤ (y : Int) := by omega
            have e2 : (y : Int) < (n : Int) := by omega
            by_cases hz : P' y = 0
            · have R := hide (And.intro (plV_set P' y 2 ▸ r1.set y (.int .u8 ((2 : Nat) : Int))) (And.intro (r2.setCell (p := ⟨g, y, none⟩) (.inl (by simp)) (.int .u8 ((2 : Nat) : Int))) (r3.step (unhide HWF) hz (unhide HL0) ⟨(unhide HFD).1, (unhide HFD).2.1⟩)))
              rw [hz] at d3
              have HG := hide hgk
              clear r1 r2 r3 HK hgk n1 n2 hz
              generalize hq : hdI t = q at *
              have HQ := hide hq
              clear hq
              go_wp2
              go_roundg (gk - 1)
              case rel => exact ⟨t, _, by rw [unhide HQ], by have := unhide HG; simp at this; omega, unhide R⟩
              all_goals
                have := unhide HG
                simp at this
                omega
            · have R := hide (And.intro r1 (And.intro r2 (And.intro r3.pl (And.intro (r3.stop2 hz (unhide HL0)) r3.mono))))
              have hz1 : ((P' y : Int) == 0) = false := by rw [beq_eq_false_iff_ne]; omega
              clear r1 r2 r3 HK hgk n1 n2 hz
              generalize P' y = z at *
              go_wp2
              go_end0
              exact ⟨rfl, P', unhide R⟩
      · have z1 : ((P y : Int) == 0) = false := by rw [beq_eq_false_iff_ne]; omega
        clear hf2 z0
        generalize P y = fd at *
        go_wp2
        go_loopg [2] l0.length (fun gk a w' => ∃ (l : List Nat) (P' : Nat → Nat), a = .int .i64 (hdI l) ∧ l.length = gk ∧ Hid (w'.rowIs g 78 n (plV P') ∧ Keep [g] w w' ∧ Tl T i0 i fd P P' l0 l))
        case atStart => exact ⟨l0, P, by rw [unhide HL0], rfl, unhide HR, Keep.refl _ _, unhide HP, fun _ h => h, .inr ⟨i, unhide HU⟩, fun _ => (unhide HFD).2.2.symm, .inr rfl⟩
        case round =>
          obtain ⟨l, P', rfl, hgk, HK⟩ := hrel
          obtain ⟨r1, r2, r3⟩ := unhide HK
          cases l with
          | nil =>
            have R := hide (And.intro r1 (And.intro r2 (And.intro r3.pl (And.intro (r3.stop1 (unhide HU).ne) r3.mono))))
            clear r1 r2 r3 HK hgk
            rw [show hdI [] = -1 from rfl]
            go_wp2
            go_end0
            exact ⟨rfl, P', unhide R⟩
          | cons y t =>
            obtain ⟨n1, n2⟩ := r3.next
            have hyn := (unhide HC).2 y n2
            have d := ((unhide HC).1 y hyn).1
            have d3 := r1.cell hyn
            have f3 := r1.frozen y
            have c1' := c1
            rw [← r2.cell (p := ⟨p, 1, none⟩) hp (by simpa using hgp)] at c1'
            rw [← r2.cell (p := ⟨gu, y, none⟩) k3 (by simpa using hgu)] at d
            unfold plV at d3
            rw [n1] at d
            rw [show hdI (y :: t) = (y : Int) from rfl]
            have hyn1 : ((y : Int) == -1) = false := by rw [beq_eq_false_iff_ne]; omega
            have e1 : (0 : Int) ≤ (y : Int) := by omega
            have e2 : (y : Int) < (n : Int) := by omega
            by_cases hz : P' y = 0
            · have R := hide (And.intro (plV_set P' y fd ▸ r1.set y (.int .u8 ((fd : Nat) : Int))) (And.intro (r2.setCell (p := ⟨g, y, none⟩) (.inl (by simp)) (.int .u8 ((fd : Nat) : Int))) (r3.step (unhide HWF) hz (unhide HL0) ⟨(unhide HFD).1, (unhide HFD).2.1⟩)))
              rw [hz] at d3
              have HG := hide hgk
              clear r1 r2 r3 HK hgk n1 n2 hz
              generalize hq : hdI t = q at *
              have HQ := hide hq
              clear hq
              go_wp2
              go_roundg (gk - 1)
              case rel => exact ⟨t, _, by rw [unhide HQ], by have := unhide HG; simp at this; omega, unhide R⟩
              all_goals
                have := unhide HG
                simp at this
                omega
            · have R := hide (And.intro r1 (And.intro r2 (And.intro r3.pl (And.intro (r3.stop2 hz (unhide HL0)) r3.mono))))
              have hz1 : ((P' y : Int) == 0) = false := by rw [beq_eq_false_iff_ne]; omega
              clear r1 r2 r3 HK hgk n1 n2 hz
              generalize P' y = z at *
              go_wp2
              go_end0
              exact ⟨rfl, P', unhide R⟩

set_option maxHeartbeats 2000000 in
theorem below_any (i : Nat) (w : World) (p : Nat) (u v : Value) (F : Fo) (h : FoIn w p u v F) (ho : Ok F) (hi : F.tr.par i ≠ -2) :
    Calls Try.prog 66 #[.pointer (some ⟨p, 0, none⟩), .int .i64 (i : Int)] w fun e w' => (∃ (g : Nat) (P : Nat → Nat), e = .returned (.slice (some ⟨g, 0, none⟩) F.ps.length F.ps.length) ∧ w.heap.size ≤ g ∧ w'.rowIs g 78 F.ps.length (plV P) ∧ ∀ x, x < F.ps.length → (P x = 1 ↔ i ∈ F.tr.up x)) ∧ Below w.heap.size w w' := by
  have hT := hide (fun (x : Nat) (w1 : World) (g n cap : Nat) (P : Nat → Nat) (hb : Below w.heap.size w w1) (hn : F.ps.length = n) (hr : w1.rowIs g 78 n (plV P)) (hg : w.heap.size ≤ g) (hx : F.tr.par x ≠ -2) (hP : Pl F.tr i P) => tell_any i x w1 p g n cap u v F P (h.below hb) ho hn hr (fun hm => by have := h.lt g hm; omega) hx hP)
  have hH := hide (fun (x : Int) (w1 : World) (hb : Below w.heap.size w w1) => has_any x w1 p u v F (h.below hb))
  obtain ⟨c0, c1, c2, _⟩ := h.cells
  have h1 := Fo.par_lt hi
  obtain ⟨gu, cu, rfl, k1, k2, k3, k4, ou, k5⟩ := h.par i h1
  have hp : p < w.heap.size := blk_lt h.blk
  have hn : F.ps.length ≤ 1048576 := Nat.le_trans ho.len ho.fit.n
  have HWF := hide ho.wf
  have HI := hide (show Pl F.tr i (updF (fun _ => 0) i 1) from ⟨fun x => by unfold updF; split <;> simp, by simp [updF], fun x hx => by
    unfold updF at hx; split at hx
    · rename_i e; subst e; exact ho.wf.self hi
    · simp at hx, fun x hx => by unfold updF at hx; split at hx <;> simp at hx⟩)
  have HLT := hide (fun j (hj : F.tr.par j ≠ -2) => Fo.par_lt hj)
  clear h ho hi k5 ou c0 c2
  generalize hTT : F.tr = T at *
  clear hTT
  generalize hnn : F.ps.length = n at *
  have HN := hide hnn
  clear hnn
  have hmk := run_make_row' (P := Try.prog) 76 78 (.int .u8 0) 1 Try.underlying76 Try.info78 rfl .i64 .i64 n (by omega) (by omega)
  unfold maxLen at k2
  have HR0 := hide (World.rowIs_made w (.int .u8 0) n 78)
  have e1 : (0 : Int) ≤ (i : Int) := by omega
  have e2 : (i : Int) < (n : Int) := by omega
  have d0 := (unhide HR0).cell h1
  have f0 := (unhide HR0).frozen i
  have HB0 := hide ((Below.refl w.heap.size w).alloc (Nat.le_refl _) (.cells (madeCells #[.int .u8 0] n) 78))
  go_enter Try.func66, Try.ntmps66
  go_wp2
  go_loopw [18] (fun a w' => ∃ (k : Nat) (P : Nat → Nat), k ≤ n ∧ a = .int .i64 (k : Int) ∧ Hid (w'.rowIs w.heap.size 78 n (plV P) ∧ Below w.heap.size w w' ∧ Pl T i P ∧ ∀ x, x < k → T.par x ≠ -2 → P x ≠ 0)) (fun a _ => n - (intOf a).toNat)
  case atStart =>
    refine ⟨0, updF (fun _ => 0) i 1, Nat.zero_le _, rfl, ?_, ?_, unhide HI, fun x hx => by omega⟩
    · refine ⟨_, heap_alloc_new _ _, by simp [size_madeCells], fun j hj => ?_⟩
      have h0 : (madeCells #[Value.int .u8 0] n)[j]? = some (.int .u8 0) := by simp [madeCells, hj, Nat.mod_one]
      by_cases e : i = j
      · subst e; simp [plV, updF, size_madeCells, hj]
      · rw [Array.getElem?_setIfInBounds_ne e, h0]; simp [plV, updF, show j ≠ i from fun e' => e e'.symm]
    · exact (Below.refl _ _).alloc (Nat.le_refl _) _
  case round =>
    obtain ⟨k, P, hk, rfl, HK⟩ := hrel
    clear d0 f0
    by_cases hlt : k < n
    · have e3 : (k : Int) < (n : Int) := by omega
      go_wp2_with fail
      refine (unhide hH k _ (unhide HK).2.1).mono ?_
      rintro e w1 ⟨rfl, rfl⟩
      rw [T.hasI_nat]
      by_cases hx : T.par k = -2
      · rw [show (T.par k != -2) = false from by simp [hx]]
        have HX := hide hx
        clear hx
        go_wp2
        go_roundw
        case rel =>
          obtain ⟨r1, r2, r3, r4⟩ := unhide HK
          refine ⟨k + 1, P, by omega, by go_num, r1, r2, r3, fun x hx hx' => ?_⟩
          by_cases e : x = k
          · subst e; exact absurd (unhide HX) hx'
          · exact r4 x (by omega) hx'
        case measure => simp [intOf]; omega
      · rw [show (T.par k != -2) = true from by simp [hx]]
        have HX := hide hx
        clear hx
        go_wp2_with fail
        obtain ⟨r1, r2, r3, r4⟩ := unhide HK
        refine (unhide hT k _ _ _ n P r2 rfl r1 (Nat.le_refl _) (unhide HX) r3).mono ?_
        rintro e w2 ⟨rfl, P', s1, s2, s3, s4, s5⟩
        have HS := hide (And.intro s1 (And.intro (s2.below r2 r2.size (by simp)) (And.intro s3 (And.intro s4 (And.intro s5 r4)))))
        clear r1 r2 r3 r4 s1 s2 s3 s4 s5 HK
        go_wp2
        go_roundw
        case rel =>
          obtain ⟨r1, r2, r3, r4, r5, r6⟩ := unhide HS
          refine ⟨k + 1, P', by omega, by go_num, r1, r2, r3, fun x hx hx' => ?_⟩
          by_cases e : x = k
          · subst e; exact r4
          · exact r5 x (r6 x (by omega) hx')
        case measure => simp [intOf]; omega
    · have : k = n := by omega
      subst this
      go_wp2
      go_ret
      obtain ⟨r1, r2, r3, r4⟩ := unhide HK
      refine ⟨⟨w.heap.size, P, rfl, Nat.le_refl _, r1, fun x hx => ⟨r3.yes x, fun hm => ?_⟩⟩, r2⟩
      have h0 := r4 x hx (Tr.there hm)
      have h3 := r3.lt x
      have h2 : P x ≠ 2 := fun e => r3.no x e hm
      omega
end Go.Proofs.Ytbcibdofcjehcaa
