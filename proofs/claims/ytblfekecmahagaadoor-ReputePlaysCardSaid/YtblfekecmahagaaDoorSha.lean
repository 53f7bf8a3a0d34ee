/-
  Plain mathematics: SHA-256 over numbers and lists of bytes, as the document's chapter 1 words it. No Go, no program.
-/
namespace Crv

/-- A word turned to the right, as a sum: the two parts share no bit. -/
def rotr (n x : Nat) : Nat := x / 2 ^ n + x * 2 ^ (32 - n) % 4294967296
def bs0 (x : Nat) : Nat := rotr 2 x ^^^ rotr 13 x ^^^ rotr 22 x
def bs1 (x : Nat) : Nat := rotr 6 x ^^^ rotr 11 x ^^^ rotr 25 x
def ss0 (x : Nat) : Nat := rotr 7 x ^^^ rotr 18 x ^^^ x / 8
def ss1 (x : Nat) : Nat := rotr 17 x ^^^ rotr 19 x ^^^ x / 1024
def ch (e f g : Nat) : Nat := (e &&& f) ^^^ ((4294967295 - e) &&& g)
def maj (a b c : Nat) : Nat := (a &&& b) ^^^ (a &&& c) ^^^ (b &&& c)

def keyList : List Nat := [
  1116352408, 1899447441, 3049323471, 3921009573, 961987163, 1508970993, 2453635748, 2870763221,
  3624381080, 310598401, 607225278, 1426881987, 1925078388, 2162078206, 2614888103, 3248222580,
  3835390401, 4022224774, 264347078, 604807628, 770255983, 1249150122, 1555081692, 1996064986,
  2554220882, 2821834349, 2952996808, 3210313671, 3336571891, 3584528711, 113926993, 338241895,
  666307205, 773529912, 1294757372, 1396182291, 1695183700, 1986661051, 2177026350, 2456956037,
  2730485921, 2820302411, 3259730800, 3345764771, 3516065817, 3600352804, 4094571909, 275423344,
  430227734, 506948616, 659060556, 883997877, 958139571, 1322822218, 1537002063, 1747873779,
  1955562222, 2024104815, 2227730452, 2361852424, 2428436474, 2756734187, 3204031479, 3329325298]
def key (i : Nat) : Nat := keyList.getD i 0
theorem key_lt (i : Nat) : key i < 4294967296 := by
  unfold key
  rcases Nat.lt_or_ge i 64 with h | h
  · have : ∀ j : Fin 64, keyList.getD j.val 0 < 4294967296 := by decide
    exact this ⟨i, h⟩
  · rw [List.getD_eq_getElem?_getD, List.getElem?_eq_none (by simpa [keyList] using h)]; decide

/-- The eight state words. -/
structure St where
  a : Nat
  b : Nat
  c : Nat
  d : Nat
  e : Nat
  f : Nat
  g : Nat
  h : Nat

def St.list (s : St) : List Nat := [s.a, s.b, s.c, s.d, s.e, s.f, s.g, s.h]
def St.ok (s : St) : Prop := ∀ x ∈ s.list, x < 4294967296
def init : St := ⟨1779033703, 3144134277, 1013904242, 2773480762, 1359893119, 2600822924, 528734635, 1541459225⟩

def t1 (s : St) (k w : Nat) : Nat := (s.h + bs1 s.e + ch s.e s.f s.g + k + w) % 4294967296
def t2 (s : St) : Nat := (bs0 s.a + maj s.a s.b s.c) % 4294967296
def round (s : St) (k w : Nat) : St := ⟨(t1 s k w + t2 s) % 4294967296, s.a, s.b, s.c, (s.d + t1 s k w) % 4294967296, s.e, s.f, s.g⟩
/-- The state words behind n rounds. -/
def rounds (ws : List Nat) (s : St) : Nat → St
  | 0 => s
  | n + 1 => round (rounds ws s n) (key n) (ws.getD n 0)

/-- One word of the schedule more. -/
def nextWord (l : List Nat) (k : Nat) : Nat := (l.getD k 0 + ss0 (l.getD (k + 1) 0) + l.getD (k + 9) 0 + ss1 (l.getD (k + 14) 0)) % 4294967296
/-- The first 16 + n words of a block's schedule, out of its sixteen words. -/
def sched (b : List Nat) : Nat → List Nat
  | 0 => b
  | n + 1 => sched b n ++ [nextWord (sched b n) n]

def wordAt (m : List UInt8) (i : Nat) : Nat := (m.getD (4 * i) 0).toNat * 16777216 + (m.getD (4 * i + 1) 0).toNat * 65536 + (m.getD (4 * i + 2) 0).toNat * 256 + (m.getD (4 * i + 3) 0).toNat
def words16 (m : List UInt8) : List Nat := (List.range 16).map (wordAt m)
def schedule (m : List UInt8) : List Nat := sched (words16 m) 48

def St.plus (s t : St) : St := ⟨(s.a + t.a) % 4294967296, (s.b + t.b) % 4294967296, (s.c + t.c) % 4294967296, (s.d + t.d) % 4294967296, (s.e + t.e) % 4294967296, (s.f + t.f) % 4294967296, (s.g + t.g) % 4294967296, (s.h + t.h) % 4294967296⟩
/-- One block. -/
def mix (s : St) (m : List UInt8) : St := s.plus (rounds (schedule m) s 64)

/-- n blocks of a message. -/
def blocks (s : St) (m : List UInt8) : Nat → St
  | 0 => s
  | n + 1 => mix (blocks s m n) ((m.drop (64 * n)).take 64)

def be4 (x : Nat) : List UInt8 := [UInt8.ofNat (x / 16777216), UInt8.ofNat (x / 65536), UInt8.ofNat (x / 256), UInt8.ofNat x]
def be8 (x : Nat) : List UInt8 := be4 (x / 4294967296) ++ be4 x
def zeros (n : Nat) : Nat := (119 - n % 64) % 64
def padding (n : Nat) : List UInt8 := 128 :: (List.replicate (zeros n) 0 ++ be8 (8 * n))
def padded (m : List UInt8) : List UInt8 := m ++ padding m.length
def St.bytes (s : St) : List UInt8 := s.list.flatMap be4
def sha (m : List UInt8) : List UInt8 := (blocks init (padded m) ((padded m).length / 64)).bytes

/-! ### Bounds -/
theorem rotr_lt {n x : Nat} (hn : n ≤ 32) (hx : x < 4294967296) : rotr n x < 4294967296 := by
  unfold rotr
  have e : (4294967296 : Nat) = 2 ^ (32 - n) * 2 ^ n := by rw [← Nat.pow_add, Nat.sub_add_cancel hn]
  have h1 : x / 2 ^ n < 2 ^ (32 - n) := by
    rw [Nat.div_lt_iff_lt_mul (Nat.two_pow_pos n), ← e]; exact hx
  have h2 : x * 2 ^ (32 - n) % 4294967296 = 2 ^ (32 - n) * (x % 2 ^ n) := by
    rw [e, Nat.mul_comm x, Nat.mul_mod_mul_left]
  have h3 : x % 2 ^ n < 2 ^ n := Nat.mod_lt _ (Nat.two_pow_pos n)
  rw [h2]
  have h4 : 2 ^ (32 - n) * (x % 2 ^ n) + 2 ^ (32 - n) ≤ 2 ^ (32 - n) * 2 ^ n := by
    rw [← Nat.mul_succ]; exact Nat.mul_le_mul_left _ h3
  omega
theorem xor_lt {a b : Nat} (ha : a < 4294967296) (hb : b < 4294967296) : a ^^^ b < 4294967296 := Nat.xor_lt_two_pow (n := 32) ha hb
theorem and_lt {a b : Nat} (hb : b < 4294967296) : a &&& b < 4294967296 := Nat.and_lt_two_pow (n := 32) a hb
theorem bs0_lt {x : Nat} (h : x < 4294967296) : bs0 x < 4294967296 := xor_lt (xor_lt (rotr_lt (by omega) h) (rotr_lt (by omega) h)) (rotr_lt (by omega) h)
theorem bs1_lt {x : Nat} (h : x < 4294967296) : bs1 x < 4294967296 := xor_lt (xor_lt (rotr_lt (by omega) h) (rotr_lt (by omega) h)) (rotr_lt (by omega) h)
theorem ss0_lt {x : Nat} (h : x < 4294967296) : ss0 x < 4294967296 := xor_lt (xor_lt (rotr_lt (by omega) h) (rotr_lt (by omega) h)) (by omega)
theorem ss1_lt {x : Nat} (h : x < 4294967296) : ss1 x < 4294967296 := xor_lt (xor_lt (rotr_lt (by omega) h) (rotr_lt (by omega) h)) (by omega)
theorem ch_lt {e f g : Nat} (hf : f < 4294967296) (hg : g < 4294967296) : ch e f g < 4294967296 := xor_lt (and_lt hf) (and_lt hg)
theorem maj_lt {a b c : Nat} (hb : b < 4294967296) (hc : c < 4294967296) : maj a b c < 4294967296 := xor_lt (xor_lt (and_lt hb) (and_lt hc)) (and_lt hc)
theorem ok_iff {s : St} : s.ok ↔ s.a < 4294967296 ∧ s.b < 4294967296 ∧ s.c < 4294967296 ∧ s.d < 4294967296 ∧ s.e < 4294967296 ∧ s.f < 4294967296 ∧ s.g < 4294967296 ∧ s.h < 4294967296 := by
  simp [St.ok, St.list]
theorem init_ok : init.ok := by rw [ok_iff]; decide
theorem round_ok {s : St} (h : s.ok) (k w : Nat) : (round s k w).ok := by
  rw [ok_iff] at h ⊢
  simp only [round]
  refine ⟨?_, ?_, ?_, ?_, ?_, ?_, ?_, ?_⟩ <;> omega
theorem rounds_ok {s : St} (h : s.ok) (ws : List Nat) : ∀ n, (rounds ws s n).ok
  | 0 => h
  | n + 1 => round_ok (rounds_ok h ws n) _ _
theorem plus_ok (s t : St) : (s.plus t).ok := by
  rw [ok_iff]; simp only [St.plus]; refine ⟨?_, ?_, ?_, ?_, ?_, ?_, ?_, ?_⟩ <;> omega
theorem mix_ok (s : St) (m : List UInt8) : (mix s m).ok := plus_ok _ _
theorem blocks_ok {s : St} (h : s.ok) (m : List UInt8) : ∀ n, (blocks s m n).ok
  | 0 => h
  | _ + 1 => mix_ok _ _
theorem wordAt_lt (m : List UInt8) (i : Nat) : wordAt m i < 4294967296 := by
  unfold wordAt
  have h0 := (m.getD (4 * i) 0).toNat_lt
  have h1 := (m.getD (4 * i + 1) 0).toNat_lt
  have h2 := (m.getD (4 * i + 2) 0).toNat_lt
  have h3 := (m.getD (4 * i + 3) 0).toNat_lt
  omega
theorem length_words16 (m : List UInt8) : (words16 m).length = 16 := by simp [words16]
theorem length_sched {b : List Nat} (h : b.length = 16) : ∀ n, (sched b n).length = 16 + n
  | 0 => h
  | n + 1 => by simp [sched, length_sched h n]; omega
theorem length_schedule (m : List UInt8) : (schedule m).length = 64 := length_sched (length_words16 m) 48
theorem sched_lt {b : List Nat} (h : ∀ x ∈ b, x < 4294967296) : ∀ n, ∀ x ∈ sched b n, x < 4294967296
  | 0 => h
  | n + 1 => by
    intro x hx
    simp only [sched, List.mem_append, List.mem_singleton] at hx
    rcases hx with hx | rfl
    · exact sched_lt h n x hx
    · unfold nextWord; omega
theorem words16_lt (m : List UInt8) : ∀ x ∈ words16 m, x < 4294967296 := by
  intro x hx
  simp only [words16, List.mem_map] at hx
  obtain ⟨i, _, rfl⟩ := hx
  exact wordAt_lt m i
theorem getD_lt {l : List Nat} (h : ∀ x ∈ l, x < 4294967296) (i : Nat) : l.getD i 0 < 4294967296 := by
  rcases Nat.lt_or_ge i l.length with hi | hi
  · rw [List.getD_eq_getElem?_getD, List.getElem?_eq_getElem hi]; exact h _ (List.getElem_mem hi)
  · rw [List.getD_eq_getElem?_getD, List.getElem?_eq_none hi]; decide
theorem schedule_lt (m : List UInt8) (i : Nat) : (schedule m).getD i 0 < 4294967296 := getD_lt (sched_lt (words16_lt m) 48) i

/-! ### The two shapes of a turned word -/
theorem rotr_or {n x : Nat} (hn : n ≤ 32) (hx : x < 4294967296) : (x * 2 ^ (32 - n) % 4294967296) ||| (x / 2 ^ n) = rotr n x := by
  unfold rotr
  have e : (4294967296 : Nat) = 2 ^ (32 - n) * 2 ^ n := by rw [← Nat.pow_add, Nat.sub_add_cancel hn]
  have h1 : x / 2 ^ n < 2 ^ (32 - n) := by
    rw [Nat.div_lt_iff_lt_mul (Nat.two_pow_pos n), ← e]; exact hx
  have h2 : x * 2 ^ (32 - n) % 4294967296 = 2 ^ (32 - n) * (x % 2 ^ n) := by
    rw [e, Nat.mul_comm x, Nat.mul_mod_mul_left]
  rw [h2, Nat.add_comm, Nat.two_pow_add_eq_or_of_lt h1]
end Crv
