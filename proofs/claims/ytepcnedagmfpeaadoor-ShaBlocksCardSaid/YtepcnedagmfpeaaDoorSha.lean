/- The sum of stage 3 as plain mathematics: words, rounds, blocks, what stands behind a text. -/
import Derived.Test.YtepcnedagmfpeaaDoorPlain
namespace Go.Proofs.YtepcnedagmfpeaaDoor

/-- A word turned down by n. -/
def rotr (n x : Nat) : Nat := x / 2 ^ n ||| x * 2 ^ (32 - n) % 4294967296
def low0 (x : Nat) : Nat := rotr 7 x ^^^ rotr 18 x ^^^ x / 8
def low1 (x : Nat) : Nat := rotr 17 x ^^^ rotr 19 x ^^^ x / 1024
def upp0 (x : Nat) : Nat := rotr 2 x ^^^ rotr 13 x ^^^ rotr 22 x
def upp1 (x : Nat) : Nat := rotr 6 x ^^^ rotr 11 x ^^^ rotr 25 x
def cho (e f g : Nat) : Nat := (e &&& f) ^^^ ((4294967295 - e) &&& g)
def maj (a b c : Nat) : Nat := (a &&& b) ^^^ (a &&& c) ^^^ (b &&& c)

theorem xor_lo {a b : Nat} (ha : a ≤ 4294967295) (hb : b ≤ 4294967295) : a ^^^ b ≤ 4294967295 := by
  have := Nat.xor_lt_two_pow (x := a) (y := b) (n := 32) (by omega) (by omega)
  omega
theorem and_lo {a b : Nat} (ha : a ≤ 4294967295) : a &&& b ≤ 4294967295 := Nat.le_trans Nat.and_le_left ha
theorem and_lo' {a b : Nat} (hb : b ≤ 4294967295) : a &&& b ≤ 4294967295 := Nat.le_trans Nat.and_le_right hb
theorem rotr_lo (n : Nat) {x : Nat} (hx : x ≤ 4294967295) : rotr n x ≤ 4294967295 := by
  have h := Nat.or_lt_two_pow (x := x / 2 ^ n) (y := x * 2 ^ (32 - n) % 4294967296) (n := 32) (Nat.lt_of_le_of_lt (Nat.div_le_self _ _) (by omega)) (by omega)
  unfold rotr
  omega
theorem low0_lo {x : Nat} (hx : x ≤ 4294967295) : low0 x ≤ 4294967295 := xor_lo (xor_lo (rotr_lo 7 hx) (rotr_lo 18 hx)) (by omega)
theorem low1_lo {x : Nat} (hx : x ≤ 4294967295) : low1 x ≤ 4294967295 := xor_lo (xor_lo (rotr_lo 17 hx) (rotr_lo 19 hx)) (by omega)
theorem upp0_lo {x : Nat} (hx : x ≤ 4294967295) : upp0 x ≤ 4294967295 := xor_lo (xor_lo (rotr_lo 2 hx) (rotr_lo 13 hx)) (rotr_lo 22 hx)
theorem upp1_lo {x : Nat} (hx : x ≤ 4294967295) : upp1 x ≤ 4294967295 := xor_lo (xor_lo (rotr_lo 6 hx) (rotr_lo 11 hx)) (rotr_lo 25 hx)
theorem cho_lo {e f g : Nat} (he : e ≤ 4294967295) : cho e f g ≤ 4294967295 := xor_lo (and_lo he) (and_lo (by omega))
theorem maj_lo {a b c : Nat} (ha : a ≤ 4294967295) (hb : b ≤ 4294967295) : maj a b c ≤ 4294967295 := xor_lo (xor_lo (and_lo ha) (and_lo ha)) (and_lo hb)

/-- The words of a block: of its bytes, and of those ahead. -/
def word4 (l : List UInt8) (i : Nat) : Nat :=
  (((l.getD (4 * i) 0).toNat * 256 + (l.getD (4 * i + 1) 0).toNat) * 256 + (l.getD (4 * i + 2) 0).toNat) * 256 + (l.getD (4 * i + 3) 0).toNat
def wnext (w : List Nat) (t : Nat) : Nat := (low1 (w.getD (t - 2) 0) + w.getD (t - 7) 0 + low0 (w.getD (t - 15) 0) + w.getD (t - 16) 0) % 4294967296
def wordsTo (l : List UInt8) : Nat → List Nat
  | 0 => []
  | t + 1 => wordsTo l t ++ [if t < 16 then word4 l t else wnext (wordsTo l t) t]
def wv (l : List UInt8) (t : Nat) : Nat := (wordsTo l (t + 1)).getD t 0

theorem wordsTo_len (l : List UInt8) : ∀ t, (wordsTo l t).length = t
  | 0 => rfl
  | t + 1 => by simp [wordsTo, wordsTo_len l t]

theorem wordsTo_get (l : List UInt8) : ∀ t j, j < t → (wordsTo l t).getD j 0 = wv l j
  | 0, j, h => by omega
  | t + 1, j, h => by
    by_cases e : j = t
    · subst e; rfl
    · have hj : j < t := by omega
      have ih := wordsTo_get l t j hj
      rw [← ih]
      simp only [wordsTo, List.getD_eq_getElem?_getD]
      rw [List.getElem?_append_left (by rw [wordsTo_len]; exact hj)]

theorem wv_lo16 (l : List UInt8) (t : Nat) (h : t < 16) : wv l t = word4 l t := by
  have hl := wordsTo_len l t
  unfold wv
  simp only [wordsTo, List.getD_eq_getElem?_getD]
  rw [List.getElem?_append_right (by omega), hl]
  simp [h]

theorem wv_hi16 (l : List UInt8) (t : Nat) (h : 16 ≤ t) : wv l t = (low1 (wv l (t - 2)) + wv l (t - 7) + low0 (wv l (t - 15)) + wv l (t - 16)) % 4294967296 := by
  have hl := wordsTo_len l t
  have e : wv l t = wnext (wordsTo l t) t := by
    unfold wv
    simp only [wordsTo, List.getD_eq_getElem?_getD]
    rw [List.getElem?_append_right (by omega), hl]
    simp [show ¬ t < 16 by omega]
  rw [e]
  unfold wnext
  rw [wordsTo_get l t _ (by omega), wordsTo_get l t _ (by omega), wordsTo_get l t _ (by omega), wordsTo_get l t _ (by omega)]

theorem word4_lo (l : List UInt8) (t : Nat) : word4 l t ≤ 4294967295 := by
  unfold word4
  have h0 := (l.getD (4 * t) 0).toNat_lt
  have h1 := (l.getD (4 * t + 1) 0).toNat_lt
  have h2 := (l.getD (4 * t + 2) 0).toNat_lt
  have h3 := (l.getD (4 * t + 3) 0).toNat_lt
  omega

theorem wv_lo (l : List UInt8) (t : Nat) : wv l t ≤ 4294967295 := by
  by_cases h : t < 16
  · rw [wv_lo16 l t h]; exact word4_lo l t
  · rw [wv_hi16 l t (by omega)]; omega

/-- Eight words. -/
structure St where
  (a b c d e f g h : Nat)

def St.lo (s : St) : Prop := s.a ≤ 4294967295 ∧ s.b ≤ 4294967295 ∧ s.c ≤ 4294967295 ∧ s.d ≤ 4294967295 ∧ s.e ≤ 4294967295 ∧ s.f ≤ 4294967295 ∧ s.g ≤ 4294967295 ∧ s.h ≤ 4294967295
def St.list (s : St) : List Nat := [s.a, s.b, s.c, s.d, s.e, s.f, s.g, s.h]
def stH : St := ⟨1779033703, 3144134277, 1013904242, 2773480762, 1359893119, 2600822924, 528734635, 1541459225⟩
theorem stH_lo : stH.lo := by unfold St.lo stH; decide

def K64 : List Nat := [1116352408, 1899447441, 3049323471, 3921009573, 961987163, 1508970993, 2453635748, 2870763221, 3624381080, 310598401, 607225278, 1426881987, 1925078388, 2162078206, 2614888103, 3248222580, 3835390401, 4022224774, 264347078, 604807628, 770255983, 1249150122, 1555081692, 1996064986, 2554220882, 2821834349, 2952996808, 3210313671, 3336571891, 3584528711, 113926993, 338241895, 666307205, 773529912, 1294757372, 1396182291, 1695183700, 1986661051, 2177026350, 2456956037, 2730485921, 2820302411, 3259730800, 3345764771, 3516065817, 3600352804, 4094571909, 275423344, 430227734, 506948616, 659060556, 883997877, 958139571, 1322822218, 1537002063, 1747873779, 1955562222, 2024104815, 2227730452, 2361852424, 2428436474, 2756734187, 3204031479, 3329325298]
theorem K64_len : K64.length = 64 := by decide
theorem K64_lo : ∀ i : Fin 64, K64.getD i.1 0 ≤ 4294967295 := by decide

def rt1 (s : St) (k w : Nat) : Nat := (s.h + upp1 s.e + cho s.e s.f s.g + k + w) % 4294967296
def rt2 (s : St) : Nat := (upp0 s.a + maj s.a s.b s.c) % 4294967296
def rnd (s : St) (k w : Nat) : St := ⟨(rt1 s k w + rt2 s) % 4294967296, s.a, s.b, s.c, (s.d + rt1 s k w) % 4294967296, s.e, s.f, s.g⟩
theorem rnd_lo {s : St} (hs : s.lo) (k w : Nat) : (rnd s k w).lo := by
  obtain ⟨ha, hb, hc, hd, he, hf, hg, hh⟩ := hs
  exact ⟨by simp only [rnd]; omega, ha, hb, hc, by simp only [rnd]; omega, he, hf, hg⟩

def rnds (s : St) (l : List UInt8) : Nat → St
  | 0 => s
  | t + 1 => rnd (rnds s l t) (K64.getD t 0) (wv l t)
theorem rnds_lo {s : St} (hs : s.lo) (l : List UInt8) : ∀ t, (rnds s l t).lo
  | 0 => hs
  | t + 1 => rnd_lo (rnds_lo hs l t) _ _

def St.plus (s r : St) : St := ⟨(s.a + r.a) % 4294967296, (s.b + r.b) % 4294967296, (s.c + r.c) % 4294967296, (s.d + r.d) % 4294967296, (s.e + r.e) % 4294967296, (s.f + r.f) % 4294967296, (s.g + r.g) % 4294967296, (s.h + r.h) % 4294967296⟩
theorem plus_lo (s r : St) : (s.plus r).lo := by unfold St.plus St.lo; dsimp only; omega

/-- A block done to a state. -/
def proc (s : St) (l : List UInt8) : St := s.plus (rnds s l 64)
theorem proc_lo (s : St) (l : List UInt8) : (proc s l).lo := plus_lo _ _

/-- The state behind so many blocks of a text. -/
def absorb : Nat → List UInt8 → St
  | 0, _ => stH
  | q + 1, l => proc (absorb q l) ((l.drop (64 * q)).take 64)
theorem absorb_lo : ∀ q l, (absorb q l).lo
  | 0, _ => stH_lo
  | _ + 1, _ => proc_lo _ _

theorem absorb_append (l s : List UInt8) : ∀ q, 64 * q ≤ l.length → absorb q (l ++ s) = absorb q l
  | 0, _ => rfl
  | q + 1, h => by
    have ih := absorb_append l s q (by omega)
    simp only [absorb, ih]
    congr 1
    rw [List.drop_append_of_le_length (by omega), List.take_append_of_le_length (by rw [List.length_drop]; omega)]

/-- A number's bytes, the most significant first, so many. -/
def beB : Nat → Nat → List UInt8
  | 0, _ => []
  | k + 1, n => UInt8.ofNat (n / 256 ^ k) :: beB k n
theorem beB_len : ∀ k n, (beB k n).length = k
  | 0, _ => rfl
  | k + 1, n => by simp [beB, beB_len k]

/-- What stands behind a text of n bytes. -/
def padL (n : Nat) : List UInt8 := 128 :: (List.replicate ((119 - n % 64) % 64) 0 ++ beB 8 (8 * n % 18446744073709551616))
theorem padL_len (n : Nat) : (padL n).length = 9 + (119 - n % 64) % 64 := by
  simp [padL, beB_len]; omega
theorem pad_mod (n : Nat) : (n + (padL n).length) % 64 = 0 := by rw [padL_len]; omega

def St.bytes (s : St) : List UInt8 := (s.list.map (beB 4)).flatten
def digest (l : List UInt8) : List UInt8 := (absorb ((l ++ padL l.length).length / 64) (l ++ padL l.length)).bytes

theorem st_bytes_len (s : St) : s.bytes.length = 32 := by simp [St.bytes, St.list, beB_len]
theorem digest_len (l : List UInt8) : (digest l).length = 32 := st_bytes_len _

/-! ### The page's example, reckoned word by word. -/
def abcW : List Nat := [1633837952, 0, 0, 0, 0, 0, 0, 0, 0, 0, 0, 0, 0, 0, 0, 24, 1633837952, 983040, 2108187653, 1610613702, 1050508152, 25426944, 316456923, 3806512014, 3357629466, 3073800610, 3854317833, 845560923, 2636160359, 3968280267, 1881225380, 3552024379, 2482346367, 996719219, 2952069057, 4043988066, 176896406, 1924104970, 2483675966, 610538786, 2672279444, 4037431130, 1042573945, 657669027, 206005234, 2215296807, 2049510749, 106709978, 4215179723, 3430291419, 3118885940, 2845390439, 2226839261, 3256115900, 344409900, 2987358873, 4015503821, 3957764664, 2682456414, 2025622859, 2755645205, 1720397816, 4004225740, 313650667]
def abcS : List St := [⟨1779033703, 3144134277, 1013904242, 2773480762, 1359893119, 2600822924, 528734635, 1541459225⟩, ⟨1567288269, 1779033703, 3144134277, 1013904242, 4197074466, 1359893119, 2600822924, 528734635⟩, ⟨1516951981, 1567288269, 1779033703, 3144134277, 2026797449, 4197074466, 1359893119, 2600822924⟩, ⟨3368241063, 1516951981, 1567288269, 1779033703, 4180228587, 2026797449, 4197074466, 1359893119⟩, ⟨3578852966, 3368241063, 1516951981, 1567288269, 618661968, 4180228587, 2026797449, 4197074466⟩, ⟨71342698, 3578852966, 3368241063, 1516951981, 1135452741, 618661968, 4180228587, 2026797449⟩, ⟨725748213, 71342698, 3578852966, 3368241063, 1900175533, 1135452741, 618661968, 4180228587⟩, ⟨3842179968, 725748213, 71342698, 3578852966, 2603066369, 1900175533, 1135452741, 618661968⟩, ⟨2241887071, 3842179968, 725748213, 71342698, 207977081, 2603066369, 1900175533, 1135452741⟩, ⟨2382687417, 2241887071, 3842179968, 725748213, 852110732, 207977081, 2603066369, 1900175533⟩, ⟨2357671019, 2382687417, 2241887071, 3842179968, 482944406, 852110732, 207977081, 2603066369⟩, ⟨1201185780, 2357671019, 2382687417, 2241887071, 1131095016, 482944406, 852110732, 207977081⟩, ⟨4146054569, 1201185780, 2357671019, 2382687417, 2171590377, 1131095016, 482944406, 852110732⟩, ⟨2274437520, 4146054569, 1201185780, 2357671019, 509051416, 2171590377, 1131095016, 482944406⟩, ⟨3643992854, 2274437520, 4146054569, 1201185780, 1952073950, 509051416, 2171590377, 1131095016⟩, ⟨3227803614, 3643992854, 2274437520, 4146054569, 194179596, 1952073950, 509051416, 2171590377⟩, ⟨2969183118, 3227803614, 3643992854, 2274437520, 123276749, 194179596, 1952073950, 509051416⟩, ⟨567974555, 2969183118, 3227803614, 3643992854, 2150900380, 123276749, 194179596, 1952073950⟩, ⟨3271285201, 567974555, 2969183118, 3227803614, 2221859924, 2150900380, 123276749, 194179596⟩, ⟨4269243327, 3271285201, 567974555, 2969183118, 3431569761, 2221859924, 2150900380, 123276749⟩, ⟨3790736435, 4269243327, 3271285201, 567974555, 2959311225, 3431569761, 2221859924, 2150900380⟩, ⟨2647034723, 3790736435, 4269243327, 3271285201, 2329577776, 2959311225, 3431569761, 2221859924⟩, ⟨3261099373, 2647034723, 3790736435, 4269243327, 3777329520, 2329577776, 2959311225, 3431569761⟩, ⟨2812502591, 3261099373, 2647034723, 3790736435, 1240797514, 3777329520, 2329577776, 2959311225⟩, ⟨3319086477, 2812502591, 3261099373, 2647034723, 2856829767, 1240797514, 3777329520, 2329577776⟩, ⟨472655928, 3319086477, 2812502591, 3261099373, 673443729, 2856829767, 1240797514, 3777329520⟩, ⟨3454534525, 472655928, 3319086477, 2812502591, 339230094, 673443729, 2856829767, 1240797514⟩, ⟨3056518332, 3454534525, 472655928, 3319086477, 3343672598, 339230094, 673443729, 2856829767⟩, ⟨2010346792, 3056518332, 3454534525, 472655928, 3992961016, 3343672598, 339230094, 673443729⟩, ⟨909411017, 2010346792, 3056518332, 3454534525, 1628611511, 3992961016, 3343672598, 339230094⟩, ⟨2684750640, 909411017, 2010346792, 3056518332, 2917635127, 1628611511, 3992961016, 3343672598⟩, ⟨3935906338, 2684750640, 909411017, 2010346792, 17410874, 2917635127, 1628611511, 3992961016⟩, ⟨1941126133, 3935906338, 2684750640, 909411017, 3126399250, 17410874, 2917635127, 1628611511⟩, ⟨2564891911, 1941126133, 3935906338, 2684750640, 2631529974, 3126399250, 17410874, 2917635127⟩, ⟨4267724277, 2564891911, 1941126133, 3935906338, 1495571923, 2631529974, 3126399250, 17410874⟩, ⟨2846323596, 4267724277, 2564891911, 1941126133, 140458035, 1495571923, 2631529974, 3126399250⟩, ⟨1705037796, 2846323596, 4267724277, 2564891911, 4105175766, 140458035, 1495571923, 2631529974⟩, ⟨1101421745, 1705037796, 2846323596, 4267724277, 124953195, 4105175766, 140458035, 1495571923⟩, ⟨887035396, 1101421745, 1705037796, 2846323596, 2768741693, 124953195, 4105175766, 140458035⟩, ⟨1841658506, 887035396, 1101421745, 1705037796, 4034403272, 2768741693, 124953195, 4105175766⟩, ⟨2045405306, 1841658506, 887035396, 1101421745, 519815328, 4034403272, 2768741693, 124953195⟩, ⟨3597076326, 2045405306, 1841658506, 887035396, 641019235, 519815328, 4034403272, 2768741693⟩, ⟨3745932591, 3597076326, 2045405306, 1841658506, 2206934801, 641019235, 519815328, 4034403272⟩, ⟨397020670, 3745932591, 3597076326, 2045405306, 3737995029, 2206934801, 641019235, 519815328⟩, ⟨2638983059, 397020670, 3745932591, 3597076326, 4255271982, 3737995029, 2206934801, 641019235⟩, ⟨643991573, 2638983059, 397020670, 3745932591, 2819559920, 4255271982, 3737995029, 2206934801⟩, ⟨1923828625, 643991573, 2638983059, 397020670, 3077922209, 2819559920, 4255271982, 3737995029⟩, ⟨2706117808, 1923828625, 643991573, 2638983059, 3581645993, 3077922209, 2819559920, 4255271982⟩, ⟨1098003085, 2706117808, 1923828625, 643991573, 4274981830, 3581645993, 3077922209, 2819559920⟩, ⟨91585771, 1098003085, 2706117808, 1923828625, 3178315832, 4274981830, 3581645993, 3077922209⟩, ⟨4045142696, 91585771, 1098003085, 2706117808, 1851537676, 3178315832, 4274981830, 3581645993⟩, ⟨2047150241, 4045142696, 91585771, 1098003085, 1391578359, 1851537676, 3178315832, 4274981830⟩, ⟨2288941602, 2047150241, 4045142696, 91585771, 1227037726, 1391578359, 1851537676, 3178315832⟩, ⟨270520975, 2288941602, 2047150241, 4045142696, 1386118400, 1227037726, 1391578359, 1851537676⟩, ⟨4117770203, 270520975, 2288941602, 2047150241, 2672265155, 1386118400, 1227037726, 1391578359⟩, ⟨1053056219, 4117770203, 270520975, 2288941602, 3842906959, 2672265155, 1386118400, 1227037726⟩, ⟨952932627, 1053056219, 4117770203, 270520975, 1422599787, 3842906959, 2672265155, 1386118400⟩, ⟨4241590395, 952932627, 1053056219, 4117770203, 2606665836, 1422599787, 3842906959, 2672265155⟩, ⟨3227702383, 4241590395, 952932627, 1053056219, 2118385806, 2606665836, 1422599787, 3842906959⟩, ⟨4290184306, 3227702383, 4241590395, 952932627, 1837350854, 2118385806, 2606665836, 1422599787⟩, ⟨3064893439, 4290184306, 3227702383, 4241590395, 2988158269, 1837350854, 2118385806, 2606665836⟩, ⟨3093179625, 3064893439, 4290184306, 3227702383, 2518632596, 2988158269, 1837350854, 2118385806⟩, ⟨80891244, 3093179625, 3064893439, 4290184306, 2492278198, 2518632596, 2988158269, 1837350854⟩, ⟨3550093669, 80891244, 3093179625, 3064893439, 4212265488, 2492278198, 2518632596, 2988158269⟩, ⟨1349398616, 3550093669, 80891244, 3093179625, 1593118500, 4212265488, 2492278198, 2518632596⟩]
def abcD : List UInt8 := [186, 120, 22, 191, 143, 1, 207, 234, 65, 65, 64, 222, 93, 174, 34, 35, 176, 3, 97, 163, 150, 23, 122, 156, 180, 16, 255, 97, 242, 0, 21, 173]

def abcL : List UInt8 := [97, 98, 99]
def abcB : List UInt8 := abcL ++ padL 3

theorem abc_words : ∀ t : Fin 64, (if t.1 < 16 then word4 abcB t.1 else wnext (abcW.take t.1) t.1) = abcW.getD t.1 0 := by decide +kernel
theorem abc_rounds : ∀ t : Fin 64, (rnd (abcS.getD t.1 stH) (K64.getD t.1 0) (abcW.getD t.1 0)).list = (abcS.getD (t.1 + 1) stH).list := by decide +kernel
theorem abc_end : (stH.plus (abcS.getD 64 stH)).bytes = abcD := by decide +kernel

theorem st_list_inj {s r : St} (h : s.list = r.list) : s = r := by
  obtain ⟨a, b, c, d, e, f, g, i⟩ := s
  obtain ⟨a', b', c', d', e', f', g', i'⟩ := r
  simpa [St.list] using h

theorem abc_wordsTo : ∀ t, t ≤ 64 → wordsTo abcB t = abcW.take t
  | 0, _ => rfl
  | t + 1, h => by
    have ih := abc_wordsTo t (by omega)
    have hl : t < abcW.length := Nat.lt_of_lt_of_le (show t < 64 by omega) (by decide)
    have hw := abc_words ⟨t, by omega⟩
    simp only [wordsTo, ih]
    simp only at hw
    rw [hw, List.take_succ_eq_append_getElem hl]
    simp [List.getD, hl]

theorem abc_wv (t : Nat) (h : t < 64) : wv abcB t = abcW.getD t 0 := by
  unfold wv
  rw [abc_wordsTo (t + 1) (by omega)]
  simp only [List.getD_eq_getElem?_getD]
  rw [List.getElem?_take]
  simp

theorem abc_rnds : ∀ t, t ≤ 64 → rnds stH abcB t = abcS.getD t stH
  | 0, _ => rfl
  | t + 1, h => by
    have ih := abc_rnds t (by omega)
    have hr := abc_rounds ⟨t, by omega⟩
    simp only at hr
    simp only [rnds]
    rw [ih, abc_wv t (by omega)]
    exact st_list_inj hr

theorem abc_digest : digest abcL = abcD := by
  have e1 : digest abcL = (absorb 1 abcB).bytes := rfl
  have e2 : absorb 1 abcB = proc stH abcB := by
    show proc (absorb 0 abcB) ((abcB.drop 0).take 64) = _
    have : (abcB.drop 0).take 64 = abcB := by decide +kernel
    rw [this]
    rfl
  rw [e1, e2]
  unfold proc
  rw [abc_rnds 64 (by omega)]
  exact abc_end

end Go.Proofs.YtepcnedagmfpeaaDoor
