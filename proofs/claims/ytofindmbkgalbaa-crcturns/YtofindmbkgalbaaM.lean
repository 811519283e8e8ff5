/- CRC-32 in plain numbers: a bit, eight bits, bytes; mixing; what is turned is seen. -/
namespace Go.Proofs.Ytofindmbkgalbaa

def poly : Nat := 3988292384
def full : Nat := 4294967295
def bit (n : Nat) : Nat := n / 2 ^^^ poly * (n % 2)
def bits8 (n : Nat) : Nat := bit (bit (bit (bit (bit (bit (bit (bit n)))))))
def takeB (n b : Nat) : Nat := bits8 (n ^^^ b)
def run : Nat → List Nat → Nat
  | n, [] => n
  | n, b :: l => run (takeB n b) l
def crcOf (l : List Nat) : Nat := run full l ^^^ full

theorem xor_lt32 {a b : Nat} (ha : a < 4294967296) (hb : b < 4294967296) : a ^^^ b < 4294967296 :=
  Nat.xor_lt_two_pow (n := 32) (by simpa using ha) (by simpa using hb)
theorem bit_lt {n : Nat} (h : n < 4294967296) : bit n < 4294967296 := by
  unfold bit poly
  refine xor_lt32 (by omega) ?_
  have := Nat.mod_lt n (by decide : 0 < 2)
  rcases Nat.mod_two_eq_zero_or_one n with e | e <;> rw [e] <;> decide
theorem bits8_lt {n : Nat} (h : n < 4294967296) : bits8 n < 4294967296 := by
  unfold bits8
  exact bit_lt (bit_lt (bit_lt (bit_lt (bit_lt (bit_lt (bit_lt (bit_lt h)))))))
theorem takeB_lt {n b : Nat} (h : n < 4294967296) (hb : b < 256) : takeB n b < 4294967296 := bits8_lt (xor_lt32 h (by omega))
theorem run_lt : ∀ (l : List Nat) (n : Nat), n < 4294967296 → (∀ b ∈ l, b < 256) → run n l < 4294967296
  | [], n, h, _ => h
  | b :: l, n, h, hb => run_lt l _ (takeB_lt h (hb b (by simp))) (fun c hc => hb c (by simp [hc]))
theorem crcOf_lt {l : List Nat} (h : ∀ b ∈ l, b < 256) : crcOf l < 4294967296 := xor_lt32 (run_lt l _ (by decide) h) (by decide)

theorem xor_cancel {a b c : Nat} (h : a ^^^ c = b ^^^ c) : a = b := by
  have e : (a ^^^ c) ^^^ c = (b ^^^ c) ^^^ c := by rw [h]
  rwa [Nat.xor_assoc, Nat.xor_assoc, Nat.xor_self, Nat.xor_zero, Nat.xor_zero] at e
theorem xor_eq_zero {a b : Nat} (h : a ^^^ b = 0) : a = b := xor_cancel (c := b) (by rw [h, Nat.xor_self])
theorem xor_mod2 (a b : Nat) : (a ^^^ b) % 2 = (a % 2) ^^^ (b % 2) := by
  have := Nat.xor_mod_two_pow (a := a) (b := b) (n := 1)
  simpa using this
theorem xor_div2 (a b : Nat) : (a ^^^ b) / 2 = (a / 2) ^^^ (b / 2) := by
  have := Nat.xor_div_two_pow (a := a) (b := b) (n := 1)
  simpa using this
theorem xor4 (a b c d : Nat) : (a ^^^ b) ^^^ (c ^^^ d) = (a ^^^ c) ^^^ (b ^^^ d) := by
  rw [Nat.xor_assoc, Nat.xor_assoc, ← Nat.xor_assoc b, Nat.xor_comm b c, Nat.xor_assoc]
theorem bit_xor (a b : Nat) : bit (a ^^^ b) = bit a ^^^ bit b := by
  unfold bit
  rw [xor_div2, xor_mod2, xor4]
  congr 1
  rcases Nat.mod_two_eq_zero_or_one a with e | e <;> rcases Nat.mod_two_eq_zero_or_one b with f | f <;> rw [e, f] <;> simp
theorem bits8_xor (a b : Nat) : bits8 (a ^^^ b) = bits8 a ^^^ bits8 b := by
  unfold bits8
  simp only [bit_xor]
theorem takeB_xor (a b c d : Nat) : takeB (a ^^^ b) (c ^^^ d) = takeB a c ^^^ takeB b d := by
  unfold takeB
  rw [xor4, bits8_xor]
def mixL : List Nat → List Nat → List Nat
  | a :: l, b :: m => (a ^^^ b) :: mixL l m
  | _, _ => []
theorem mixL_length : ∀ (l m : List Nat), l.length = m.length → (mixL l m).length = l.length
  | [], [], _ => rfl
  | _ :: l, _ :: m, h => by simp [mixL, mixL_length l m (by simpa using h)]
theorem run_mix : ∀ (l m : List Nat) (a b : Nat), l.length = m.length → run (a ^^^ b) (mixL l m) = run a l ^^^ run b m
  | [], [], _, _, _ => rfl
  | c :: l, d :: m, a, b, h => by
    simp only [mixL, run]
    rw [takeB_xor]
    exact run_mix l m _ _ (by simpa using h)

/-- Nothing comes of nothing alone. -/
theorem bit_zero {n : Nat} (h : n < 4294967296) (e : bit n = 0) : n = 0 := by
  unfold bit poly at e
  have e2 : n / 2 = 3988292384 * (n % 2) := by
    exact xor_eq_zero e
  have := Nat.mod_lt n (by decide : 0 < 2)
  rcases Nat.mod_two_eq_zero_or_one n with f | f <;> rw [f] at e2 <;> omega
theorem bits8_zero {n : Nat} (h : n < 4294967296) (e : bits8 n = 0) : n = 0 := by
  unfold bits8 at e
  have b1 := bit_lt h
  have b2 := bit_lt b1
  have b3 := bit_lt b2
  have b4 := bit_lt b3
  have b5 := bit_lt b4
  have b6 := bit_lt b5
  have b7 := bit_lt b6
  exact bit_zero h (bit_zero b1 (bit_zero b2 (bit_zero b3 (bit_zero b4 (bit_zero b5 (bit_zero b6 (bit_zero b7 e)))))))
theorem bits8_inj {a b : Nat} (ha : a < 4294967296) (hb : b < 4294967296) (e : bits8 a = bits8 b) : a = b := by
  refine xor_eq_zero (bits8_zero (xor_lt32 ha hb) ?_)
  rw [bits8_xor, e, Nat.xor_self]
theorem run_inj : ∀ (l : List Nat) (a b : Nat), a < 4294967296 → b < 4294967296 → (∀ c ∈ l, c < 256) → run a l = run b l → a = b
  | [], _, _, _, _, _, e => e
  | c :: l, a, b, ha, hb, hc, e => by
    have hc0 := hc c (by simp)
    have h := run_inj l _ _ (takeB_lt ha hc0) (takeB_lt hb hc0) (fun d hd => hc d (by simp [hd])) e
    have h2 := bits8_inj (xor_lt32 ha (by omega)) (xor_lt32 hb (by omega)) h
    exact xor_cancel h2
theorem run_append : ∀ (l m : List Nat) (n : Nat), run n (l ++ m) = run (run n l) m
  | [], _, _ => rfl
  | b :: l, m, n => run_append l m (takeB n b)

/-- Eight bits of nothing below: the number moves. -/
theorem bit_even (n : Nat) : bit (2 * n) = n := by
  unfold bit
  rw [Nat.mul_mod_right, Nat.mul_div_cancel_left _ (by decide)]
  simp
theorem bits8_even (n : Nat) : bits8 (256 * n) = n := by
  unfold bits8
  have e : 256 * n = 2 * (2 * (2 * (2 * (2 * (2 * (2 * (2 * n))))))) := by omega
  rw [e]
  simp only [bit_even]
theorem xor_low {y x : Nat} (hx : x < 256) : (256 * y) ^^^ x = 256 * y + x := by
  have := Nat.two_pow_add_eq_or_of_lt (i := 8) (b := x) (by simpa using hx) y
  have h2 : 256 * y + x = 2 ^ 8 * y + x := rfl
  rw [h2, this]
  refine Nat.eq_of_testBit_eq fun i => ?_
  show ((2 ^ 8 * y) ^^^ x).testBit i = _
  simp only [Nat.testBit_xor, Nat.testBit_or, Nat.testBit_two_pow_mul]
  by_cases hi : 8 ≤ i
  · have : x.testBit i = false := Nat.testBit_lt_two_pow (Nat.lt_of_lt_of_le (by simpa using hx) (Nat.pow_le_pow_right (by decide) hi))
    simp [this]
  · simp [hi]
theorem pow256 (k : Nat) : 256 ^ (k + 1) = 256 ^ k * 256 := Nat.pow_succ ..
/-- Up to four bytes from nothing: what comes of them is small only if they are nothing. -/
theorem run_four : ∀ (k : Nat) (l : List Nat), l.length = k → k ≤ 4 → (∀ b ∈ l, b < 256) → ∀ y, run 0 l = y → y < 256 ^ (4 - k) → y = 0 ∧ ∀ b ∈ l, b = 0
  | 0, l, hl, _, _, y, e, _ => by
    obtain rfl := List.length_eq_zero_iff.1 hl
    exact ⟨e.symm, fun b hb => by simp at hb⟩
  | k + 1, l, hl, hk, hb, y, e, hy => by
    obtain ⟨l', x, rfl⟩ : ∃ l' x, l = l' ++ [x] := by
      refine ⟨l.dropLast, l.getLast (by intro h; simp [h] at hl), (List.dropLast_concat_getLast _).symm⟩
    have hl' : l'.length = k := by simpa using hl
    have hx : x < 256 := hb x (by simp)
    have hb' : ∀ b ∈ l', b < 256 := fun b h => hb b (by simp [h])
    have h1 : 256 * y < 4294967296 := by
      have : 256 ^ (4 - (k + 1)) * 256 ≤ 4294967296 := by
        rw [← pow256]
        exact Nat.pow_le_pow_right (n := 256) (by decide) (by omega : 4 - (k + 1) + 1 ≤ 4)
      omega
    rw [run_append] at e
    have e2 : bits8 (run 0 l' ^^^ x) = bits8 (256 * y) := by rw [bits8_even]; exact e
    have e3 := bits8_inj (xor_lt32 (run_lt l' 0 (by decide) hb') (by omega)) h1 e2
    have e4 : run 0 l' = 256 * y + x := by
      rw [← xor_low hx, ← e3, Nat.xor_assoc, Nat.xor_self, Nat.xor_zero]
    have h2 : 256 * y + x < 256 ^ (4 - k) := by
      have h3 : 4 - k = 4 - (k + 1) + 1 := by omega
      rw [h3, pow256]
      omega
    have ⟨r1, r2⟩ := run_four k l' hl' (by omega) hb' _ e4 h2
    refine ⟨by omega, fun b h => ?_⟩
    rcases List.mem_append.1 h with h | h
    · exact r2 b h
    · simp only [List.mem_singleton] at h
      omega
theorem run_four' (l : List Nat) (hl : l.length ≤ 4) (hb : ∀ b ∈ l, b < 256) (e : run 0 l = 0) : ∀ b ∈ l, b = 0 :=
  (run_four l.length l rfl hl hb 0 e (Nat.pow_pos (by decide))).2
theorem bits8_0 : bits8 0 = 0 := by decide
theorem run_zeros : ∀ (l : List Nat), (∀ b ∈ l, b = 0) → run 0 l = 0
  | [], _ => rfl
  | b :: l, h => by
    have : b = 0 := h b (by simp)
    subst this
    exact run_zeros l (fun c hc => h c (by simp [hc]))
theorem run_some0 : ∀ (l : List Nat) (n : Nat), n < 4294967296 → (∀ b ∈ l, b = 0) → run n l = 0 → n = 0 := fun l n hn h e =>
  run_inj l n 0 hn (by decide) (fun b hb => by rw [h b hb]; decide) (by rw [e, run_zeros l h])
/-- A difference that lies in up to four bytes side by side. -/
theorem diff_seen (p m s : List Nat) (hp : ∀ b ∈ p, b = 0) (hs : ∀ b ∈ s, b = 0) (hm : m.length ≤ 4) (hb : ∀ b ∈ m, b < 256) : run 0 (p ++ (m ++ s)) = 0 ↔ ∀ b ∈ m, b = 0 := by
  rw [run_append, run_zeros p hp, run_append]
  constructor
  · intro e
    exact run_four' m hm hb (run_some0 s _ (run_lt m 0 (by decide) hb) hs e)
  · intro e
    rw [run_zeros m e, run_zeros s hs]
theorem crc_eq {l m : List Nat} (h : l.length = m.length) : crcOf l = crcOf m ↔ run 0 (mixL l m) = 0 := by
  have e : run 0 (mixL l m) = run full l ^^^ run full m := by
    have := run_mix l m full full h
    rwa [Nat.xor_self] at this
  rw [e]
  unfold crcOf
  constructor
  · intro h
    rw [xor_cancel h, Nat.xor_self]
  · intro h
    rw [xor_eq_zero h]
theorem crc_mix (a b c : List Nat) (h1 : a.length = b.length) (h2 : a.length = c.length) : crcOf (mixL (mixL a b) c) = crcOf a ^^^ crcOf b ^^^ crcOf c := by
  have e1 := run_mix (mixL a b) c (full ^^^ full) full (by rw [mixL_length a b h1, h2])
  rw [run_mix a b full full h1] at e1
  have e0 : full ^^^ full ^^^ full = full := by decide
  rw [e0] at e1
  unfold crcOf
  rw [e1]
  generalize run full a = x
  generalize run full b = y
  generalize run full c = z
  refine Nat.eq_of_testBit_eq fun i => ?_
  simp only [Nat.testBit_xor]
  cases x.testBit i <;> cases y.testBit i <;> cases z.testBit i <;> cases full.testBit i <;> rfl
theorem crc_parts (a b c : List Nat) (ha : ∀ x ∈ a, x < 256) (hb : ∀ x ∈ b, x < 256) (hc : ∀ x ∈ c, x < 256) : crcOf (a ++ c) = crcOf (b ++ c) ↔ crcOf a = crcOf b := by
  unfold crcOf
  rw [run_append, run_append]
  constructor
  · intro h
    rw [run_inj c _ _ (run_lt a full (by decide) ha) (run_lt b full (by decide) hb) hc (xor_cancel h)]
  · intro h
    rw [xor_cancel h]
end Go.Proofs.Ytofindmbkgalbaa
