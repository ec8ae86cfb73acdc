/- The document's disk: the walk of Spoil. -/
import Derived.Test.YtpnnlpmkgglgdaaDkN
import Derived.Test.YtpnnlpmkgglgdaaByteRow
import Derived.RegionTactic
import Derived.BigRegion
namespace Go.Proofs.Ytpnnlpmkgglgdaa
open Go.RowKit

/-- k bytes from a place on, exclusive or. -/
def xorK (l : List UInt8) (a : Nat) (b : List UInt8) (k : Nat) : List UInt8 := (List.range l.length).map fun i => if a ≤ i ∧ i < a + k then l.getD i 0 ^^^ b.getD (i - a) 0 else l.getD i 0
theorem xorK_all (l : List UInt8) (a : Nat) (b : List UInt8) : xorK l a b b.length = xorAt l a b := rfl
theorem xorK_len (l : List UInt8) (a : Nat) (b : List UInt8) (k : Nat) : (xorK l a b k).length = l.length := by simp [xorK]
theorem xorK_zero (l : List UInt8) (a : Nat) (b : List UInt8) : xorK l a b 0 = l := by
  apply List.ext_getElem (xorK_len l a b 0)
  intro i h1 h2
  simp only [xorK, List.getElem_map, List.getElem_range]
  rw [if_neg (by omega), List.getD_eq_getElem?_getD, List.getElem?_eq_getElem h2]
  rfl
theorem xorK_at (l : List UInt8) (a : Nat) (b : List UInt8) (k : Nat) (h : a + k < l.length) : (xorK l a b k).getD (a + k) 0 = l.getD (a + k) 0 := by
  rw [List.getD_eq_getElem?_getD, List.getElem?_eq_getElem (by rw [xorK_len]; exact h)]
  simp only [xorK, List.getElem_map, List.getElem_range, Option.getD_some]
  rw [if_neg (by omega)]
theorem xorK_next (l : List UInt8) (a : Nat) (b : List UInt8) (k : Nat) (_h : a + k < l.length) : (xorK l a b k).set (a + k) (l.getD (a + k) 0 ^^^ b.getD k 0) = xorK l a b (k + 1) := by
  apply List.ext_getElem (by rw [List.length_set, xorK_len, xorK_len])
  intro i h1 h2
  rw [List.getElem_set]
  simp only [xorK, List.getElem_map, List.getElem_range]
  by_cases e : a + k = i
  · subst e
    rw [if_pos rfl, if_pos (by omega), Nat.add_sub_cancel_left]
  · rw [if_neg e]
    by_cases h3 : a ≤ i ∧ i < a + k
    · rw [if_pos h3, if_pos (by omega)]
    · rw [if_neg h3, if_neg (by omega)]

theorem ByteRow.below {w wr : World} {n : Nat} {bs : List UInt8} (h : ByteRow w wr n bs) : Below w.heap.size w wr := h.choose_spec.choose_spec.2.2.2.2
theorem ByteRow.len {w wr : World} {n : Nat} {bs : List UInt8} (h : ByteRow w wr n bs) : bs.length = n := h.choose_spec.choose_spec.2.2.1

theorem ByteRow.text {w wr : World} {n c : Nat} {bs : List UInt8} (h : ByteRow w wr n bs) : (convert 50 9 (.slice (some ⟨w.heap.size, 0, none⟩) n c)).run Try.prog wr = .ok (.string (str bs)) wr :=
  conv_bytes wr 50 9 5 w.heap.size n c bs h.len Try.underlying50 Try.underlying5 Try.underlying9 (fun j hj => by
    rw [h.cell j (by rw [← h.len]; exact hj), List.getD_eq_getElem?_getD, List.getElem?_eq_getElem hj]; rfl)

set_option maxRecDepth 100000 in
set_option maxHeartbeats 4000000 in
/-- The document's Spoil. -/
theorem rspoil_any {B g : Nat} {s : Dk} {vs vw : Value} {w : World} (h : RAt B g s vs vw w) (hok : s.ok) (hB : B ≤ w.heap.size) (i : Int) (hi : -9223372036854775808 ≤ i ∧ i ≤ 9223372036854775807) (t : ByteArray) (htm : t.size ≤ maxLen) :
    Calls Try.prog 30 #[.pointer (some ⟨g, 0, none⟩), .int .i64 i, .string t] w (RPost B g (s.spoilS i t.data.toList) vs vw (.int .i64 (s.spoilE i t.data.toList)) w) := by
  have IM := rimage_any h hok
  have hts := str_len t
  have hte := str_of t
  obtain ⟨y, hy⟩ : ∃ y, y = t.data.toList := ⟨_, rfl⟩
  rw [← hy] at hts hte ⊢
  have hil := hok.image_len
  have hmost := hok.most
  have H := Lib.hid h
  obtain ⟨l, hl⟩ : ∃ l, l = s.image := ⟨_, rfl⟩
  rw [← hl] at hil IM
  have HL := Lib.hid hl
  obtain ⟨im, him⟩ : ∃ im, im = str l := ⟨_, rfl⟩
  rw [← him] at IM
  have hims : im.size = l.length := by rw [him, str_size]
  have htb : t.size ≤ 9223372036854775807 := by simp only [maxLen] at htm; omega
  have himb : im.size ≤ 1048576 := by omega
  have HIMS := Lib.hid hims
  have HTS := Lib.hid hts
  have HOFF : Hid (s.off i y ↔ i < 0 ∨ (im.size : Int) < i + t.size) := Lib.hid (by unfold Dk.off; rw [← hl, ← hims, hts])
  by_cases ho : s.off i y
  · have e1 : s.spoilE i y = 5 := by unfold Dk.spoilE; rw [if_pos ho]
    have e2 : s.spoilS i y = s := by unfold Dk.spoilS; rw [if_pos ho]
    rw [e1, e2]
    have ho2 := HOFF.out.1 ho
    clear e1 e2 hy hte hil hmost hl him h hok hts hims htm ho
    have fin : Hid (RPost B g s vs vw (.int .i64 5) w (.returned (.int .i64 5)) w) := Lib.hid ⟨rfl, vs, vw, H.out, fun k hk => Or.inl hk, but_refl _ _⟩
    by_cases h0 : i < 0
    · go_enter Try.func30, Try.ntmps30
      go_wp2_with fail
      refine IM.mono ?_
      rintro e w' ⟨rfl, rfl⟩
      go_wp2
      go_ret
      exact fin.out
    · by_cases h1 : (t.size : Int) > im.size
      · go_enter Try.func30, Try.ntmps30
        go_wp2_with fail
        refine IM.mono ?_
        rintro e w' ⟨rfl, rfl⟩
        go_wp2
        go_ret
        exact fin.out
      · obtain ⟨d, hd⟩ : ∃ d : Nat, d = im.size - t.size := ⟨_, rfl⟩
        have v1 : IntKind.i64.wrap ((im.size : Int) - t.size) = (d : Int) := by rw [show (im.size : Int) - t.size = (d : Int) by omega]; exact IntWalk.i64_in _ (by omega)
        have h2 : i > (d : Int) := by omega
        clear hd ho2
        go_enter Try.func30, Try.ntmps30
        go_wp2_with fail
        refine IM.mono ?_
        rintro e w' ⟨rfl, rfl⟩
        go_wp2
        go_ret
        exact fin.out
  · have e1 : s.spoilE i y = 0 := by unfold Dk.spoilE; rw [if_neg ho]
    have e2 : s.spoilS i y = ⟨secs (xorAt l i.toNat y), s.waits, s.fuse, s.ops, s.down⟩ := by unfold Dk.spoilS; rw [if_neg ho, hl]
    rw [e1, e2]
    have ho2 : ¬ (i < 0 ∨ (im.size : Int) < i + t.size) := fun x => ho (HOFF.out.2 x)
    obtain ⟨a, rfl⟩ : ∃ a : Nat, i = a := ⟨i.toNat, by omega⟩
    rw [Int.toNat_natCast]
    have h0 : ¬ (a : Int) < 0 := by omega
    have h1 : ¬ (t.size : Int) > im.size := by omega
    obtain ⟨d, hd⟩ : ∃ d : Nat, d = im.size - t.size := ⟨_, rfl⟩
    have v1 : IntKind.i64.wrap ((im.size : Int) - t.size) = (d : Int) := by rw [show (im.size : Int) - t.size = (d : Int) by omega]; exact IntWalk.i64_in _ (by omega)
    have h2 : ¬ (a : Int) > (d : Int) := by omega
    have hat : a + t.size ≤ im.size := by omega
    obtain ⟨cap, w1, hconv, hrow⟩ := bytes_row im w
    have him2 : im.data.toList = l := by rw [him]; rfl
    rw [him2, ← xorK_zero l a y] at hrow
    have HROW := Lib.hid hrow
    have h128 : Hid (l.length % 128 = 0) := Lib.hid (by rw [hil]; omega)
    have HTE := Lib.hid hte
    clear e1 e2 hy hil hmost hl him h hok hts hims htm ho ho2 hd hrow him2 HOFF hi hte
    go_enter Try.func30, Try.ntmps30
    go_wp2_with fail
    refine IM.mono ?_
    rintro e w' ⟨rfl, rfl⟩
    go_wp2
    clear hconv
    go_loopg [9] t.size (fun gh s9 wx => ∃ k : Nat, k + gh = t.size ∧ s9 = .int .i64 k ∧ Hid (ByteRow w wx im.size (xorK l a y k)))
    case atStart => exact ⟨0, by omega, rfl, HROW⟩
    case round =>
      clear HROW
      obtain ⟨k, hk, rfl, HR⟩ := hrel
      obtain ⟨k1, hk1⟩ : ∃ k1, k1 = k + 1 := ⟨_, rfl⟩
      have v3 : IntKind.i64.wrap ((k : Int) + 1) = (k1 : Int) := by rw [show (k : Int) + 1 = (k1 : Int) by omega]; exact IntWalk.i64_in _ (by omega)
      by_cases hkm : k < t.size
      · have hki : (k : Int) < t.size := by omega
        have bk : decide ((k : Int) < (t.size : Int)) = true := by simpa using hki
        obtain ⟨j, hj⟩ : ∃ j, j = a + k := ⟨_, rfl⟩
        have v4 : IntKind.i64.wrap ((a : Int) + (k : Int)) = (j : Int) := by rw [show (a : Int) + (k : Int) = (j : Int) by omega]; exact IntWalk.i64_in _ (by omega)
        have hjl : j < im.size := by omega
        have c1 := HR.out.cell j hjl
        have f1 := HR.out.froz j hjl
        have hxa := xorK_at l a y k (by rw [← HIMS.out]; omega)
        have hxn := xorK_next l a y k (by rw [← HIMS.out]; omega)
        rw [← hj] at hxa hxn
        rw [hxa] at c1
        obtain ⟨p, hp⟩ : ∃ p : UInt8, p = l.getD j 0 := ⟨_, rfl⟩
        rw [← hp] at c1 hxn
        obtain ⟨q, hq⟩ : ∃ q : UInt8, q = y.getD k 0 := ⟨_, rfl⟩
        rw [← hq] at hxn
        have hqt : t[k] = q := by
          have hkd : k < t.data.toList.length := by rw [str_len]; exact hkm
          have hd : t.data.toList = y := by rw [← HTE.out]; rfl
          rw [hq, List.getD_eq_getElem?_getD, ← hd, List.getElem?_eq_getElem hkd]
          rfl
        have hq1 : t[k].toNat = q.toNat := congrArg UInt8.toNat hqt
        have hq2 : (t.data[k]'hkm).toNat = q.toNat := hq1
        have hpl := p.toNat_lt
        have hql := q.toNat_lt
        have e4 := u8_xor_nat p.toNat q.toNat (by omega) (by omega)
        obtain ⟨x, hx⟩ : ∃ x : UInt8, x = p ^^^ q := ⟨_, rfl⟩
        have hx2 : p.toNat ^^^ q.toNat = x.toNat := by rw [hx, UInt8.toNat_xor]
        rw [hx2] at e4
        have hset := (HR.out.set j hjl x).drew
        rw [hx, hxn, ← hk1, ← hx] at hset
        have HSET := Lib.hid hset
        have hj0 : (0 : Int) ≤ j := by omega
        have hji : (j : Int) < im.size := by omega
        obtain ⟨pn, hpn⟩ : ∃ pn, pn = p.toNat := ⟨_, rfl⟩
        obtain ⟨qn, hqn⟩ : ∃ qn, qn = q.toNat := ⟨_, rfl⟩
        rw [← hpn] at c1 e4
        rw [← hqn] at hq1 hq2 e4
        clear hset hx hx2 hqt hq hp hxa hxn hj hpl hql hpn hqn
        go_wp2
        go_region
        go_wp2
        go_roundg (t.size - k1)
        case measure => omega
        case rel => exact ⟨k1, by omega, by first | rfl | (congr 1; omega), HSET⟩
      · have hke : k = t.size := by omega
        have hki : ¬ (k : Int) < t.size := by omega
        have bk : decide ((k : Int) < (t.size : Int)) = false := by simpa using hki
        have HR2 : Hid (ByteRow w wr im.size (xorAt l a y)) := Lib.hid (by have h := HR.out; rw [hke, ← HTS.out, xorK_all] at h; exact h)
        obtain ⟨bs, hbs⟩ : ∃ bs, bs = xorAt l a y := ⟨_, rfl⟩
        rw [← hbs] at HR2
        have HBS := Lib.hid hbs
        have hbl : bs.length = im.size := HR2.out.len
        have cv := HR2.out.text (c := cap)
        have hsz : (str bs).size = im.size := by rw [str_size, hbl]
        have LD := rload_any (str bs) (by rw [hsz, HIMS.out]; exact h128.out) (by rw [hsz]; exact himb) wr
        rw [show (str bs).data.toList = bs from rfl] at LD
        obtain ⟨tb, htb⟩ : ∃ tb, tb = str bs := ⟨_, rfl⟩
        rw [← htb] at cv LD
        have KW : Kept w wr := HR2.out.below
        have HKW := Lib.hid KW
        clear hke hbs hbl hsz htb KW HR
        go_wp2_with fail
        refine LD.mono ?_
        rintro e w2 ⟨vs2, rfl, r2, hb2⟩
        obtain ⟨p2, c2, hv2, -, -⟩ := own_slice r2.st
        have K2 : Kept w w2 := HKW.out.then hb2
        have rw2 := H.out.kept K2
        have d0 : w2.cell? ⟨wr.heap.size, 0, none⟩ = some vs2 := r2.cell 0 _ rfl
        have d1 : w2.cell? ⟨g, 0, none⟩ = some vs := rw2.cell 0 _ rfl
        have f1 := rw2.froz 0
        have hgw : g < wr.heap.size := Nat.lt_of_lt_of_le (Array.getElem?_eq_some_iff.1 H.out.row).1 HKW.out.size
        have fin : RPost B g ⟨secs bs, s.waits, s.fuse, s.ops, s.down⟩ vs vw (.int .i64 0) w (.returned (.int .i64 0)) (w2.setCell ⟨g, 0, none⟩ vs2) := by
          refine ⟨rfl, vs2, vw, ⟨H.out.base, ?_, ?_, ?_⟩, ?_, ?_⟩
          · rw [heap_setCell_same _ _ _ _ _ _ rw2.row]; rfl
          · refine own_base (own_stay r2.st (fun k e => set_other _ _ _ _ _ (fun x => ?_))) (Nat.le_trans hB HKW.out.size)
            have := (r2.st.lt k e).1
            omega
          · exact own_stay rw2.wt (fun k e => set_other _ _ _ _ _ (fun x => rw2.apart.2.1 (by rw [e, x])))
          · intro k hk
            rcases hk with e | e | e
            · exact Or.inl (Or.inl e)
            · exact Or.inr (Nat.le_trans HKW.out.size (r2.st.lt k e).1)
            · exact Or.inl (Or.inr (Or.inr e))
          · exact ButBy.setCell (Bs := fun k => k = g) (ButBy.below K2) g 0 _ rfl
        have FIN := Lib.hid fin
        rw [hv2] at d0 FIN
        clear fin rw2 r2 hv2 hb2 LD cv K2
        go_wp2
        go_ret
        rw [← HBS.out]
        exact FIN.out

end Go.Proofs.Ytpnnlpmkgglgdaa
