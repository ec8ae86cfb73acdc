/- A fingerprint's text: the walks. -/
import Derived.Test.YthgjooacapodnaaHkN
import Derived.Laws.CopyOwn
import Derived.Laws.MakeOwn
namespace Go.Proofs.Ythgjooacapodnaa
open Go.RowKit

def digitsB : ByteArray := ⟨#[48, 49, 50, 51, 52, 53, 54, 55, 56, 57, 97, 98, 99, 100, 101, 102]⟩

theorem digit_at : ∀ q : Fin 16, (digitsB.data.toList.getD q.val 0) = hexD q.val := by decide +kernel

/-- The cells of some bytes. -/
def byteV (l : List UInt8) : List Value := l.map fun c => Value.int .u8 (c.toNat : Int)

theorem byteV_len (l : List UInt8) : (byteV l).length = l.length := by simp [byteV]
theorem byteV_append (a b : List UInt8) : byteV (a ++ b) = byteV a ++ byteV b := List.map_append

theorem hexL_take (l : List UInt8) (k : Nat) (h : k < l.length) : hexL (l.take (k + 1)) = hexL (l.take k) ++ [hexD ((l.getD k 0).toNat / 16), hexD ((l.getD k 0).toNat % 16)] := by
  rw [List.take_succ_eq_append_getElem h]
  unfold hexL
  rw [List.flatMap_append]
  simp [List.getD, h]

theorem infoU8' : ∃ i : TypeInfo, Try.prog.info? 5 = some i ∧ i.size = 1 ∧ i.bytes = 1 ∧ i.zero = some (.int .u8 0) := by
  refine ⟨_, rfl, ?_, ?_, ?_⟩ <;> kernel_rfl

theorem cells_new (w : World) (l : List Value) (t : TypeId) : ∀ (j : Nat) (u : Value), l[j]? = some u → (w.alloc (.cells l.toArray t)).cell? ((⟨w.heap.size, 0, none⟩ : Addr).add j) = some u := by
  intro j u h
  rw [addr_add, Nat.zero_add, cell_of_row _ _ j _ _ _ (heap_alloc_new w _)]
  simpa using h

set_option maxRecDepth 100000 in
/-- A digit. -/
theorem digit_idx (q : Nat) (hq : q < 16) (w : World) : (Instr.index 9 (.string ⟨#[48, 49, 50, 51, 52, 53, 54, 55, 56, 57, 97, 98, 99, 100, 101, 102]⟩) (.int .u8 q)).run Try.prog w = .ok (.int .u8 ((hexD q).toNat : Int)) w := by
  have h := digit_at ⟨q, hq⟩
  simp only at h
  rw [← h]
  have hs : digitsB.size = 16 := rfl
  show (Instr.index 9 (.string digitsB) (.int .u8 q)).run Try.prog w = _
  have hq' : (q : Int) < (digitsB.size : Int) := by rw [hs]; omega
  have h0 : (0 : Int) ≤ q := by omega
  rw [run_index_string _ _ _ _ _ Try.underlying9, dif_pos ⟨h0, hq'⟩]
  have hn : ((q : Int)).toNat = q := by omega
  have hql : q < digitsB.data.toList.length := hq
  congr 3
  simp only [hn, List.getD, List.getElem?_eq_getElem hql, Option.getD_some]
  rfl

set_option maxRecDepth 100000 in
set_option maxHeartbeats 2000000 in
theorem text_any (l : List UInt8) (hl : l.length = 32) (w : World) :
    Calls Try.prog 8 #[.agg (fpA l)] w fun e w' => e = .returned (.string (str (hexL l))) ∧ Below w.heap.size w w' := by
  obtain ⟨ui, hu, hu1, hu2, huz⟩ := infoU8'
  have g0 := heap_alloc_last w (.cells (fpA l) 23)
  have K0 : Below w.heap.size w (w.alloc (.cells (fpA l) 23)) := (Below.refl _ _).alloc (Nat.le_refl _) _
  have HI := Lib.hid (fp_info l hl)
  have HL := Lib.hid hl
  have HG := Lib.hid (fun (k : Nat) (hk : k < 32) => fpA_get l k (by rw [hl]; exact hk))
  obtain ⟨L, hLL⟩ : ∃ L, L = fpA l := ⟨_, rfl⟩
  rw [← hLL] at g0 K0 HI HG ⊢
  have hmk0 := fun w' => run_makeSlice (P := Try.prog) (w := w') 46 5 ui (.int .u8 0) Try.underlying46 hu huz .i64 .i64 0 64 (by omega) (by omega) (by rw [hu1]; decide) (by rw [hu2]; decide) (by omega)
  have hsz : (madeCells (Value.int .u8 0).cells ((64 : Int).toNat * ui.size)).size = 64 := by rw [size_madeCells, hu1]; rfl
  obtain ⟨Z, hZ⟩ : ∃ Z, Z = madeCells (Value.int .u8 0).cells ((64 : Int).toNat * ui.size) := ⟨_, rfl⟩
  rw [← hZ] at hsz
  have hmk : ∀ w', (Instr.makeSlice 46 (.int .i64 0) (.int .i64 64)).run Try.prog w' = .ok (.slice (some ⟨w'.heap.size, 0, none⟩) 0 64) (w'.alloc (.cells Z 5)) := by rw [hZ]; exact hmk0
  have HZS := Lib.hid hsz
  clear hl hLL hmk0 hsz hZ
  go_enter Try.func8, Try.ntmps8
  go_wp2_with (first
    | (with_reducible refine wpList_load_row rfl _ _ rfl w.heap.size rfl 23 L (0, 0) _ g0 Try.underlying23 rfl HI.out ?_)
    | (with_reducible refine wpList_load_row rfl _ _ rfl w.heap.size rfl 23 L (0, 0) _ (heap_alloc2_old _ _ _) Try.underlying23 rfl HI.out ?_))
  go_loopw [3, 8] (fun u x wr => ∃ (k : Nat) (v : Value), k ≤ 32 ∧ x = .int .i64 k ∧ v = u ∧ Hid (wr.ownsRow (w.heap.size + 1) 5 1 v (2 * k) (byteV (hexL (l.take k)))) ∧ Hid (Below w.heap.size w wr) ∧ Hid (w.heap.size + 1 ≤ wr.heap.size)) (fun _ x _ => 32 - (intOf x).toNat)
  case atStart => 
    refine ⟨0, _, by omega, rfl, rfl, Lib.hid ?_, (K0.alloc K0.size _), Lib.hid ?_⟩
    · have := World.ownsRow_made (base := w.heap.size + 1) (e := 5) (size := 1) (w.alloc (.cells L 23)) Z 64 (by simp) (by decide) (by rw [HZS.out])
      simpa [hexL, byteV] using this
    · simp
  case round =>
    obtain ⟨k, v, hk, rfl, rfl, HO, HB, HBS⟩ := hrel
    have HOD : Hid (wr.drew.ownsRow (w.heap.size + 1) 5 1 v (2 * k) (byteV (hexL (l.take k)))) := HO.out
    by_cases hlt : k < 32
    · have IXA : ∀ w', (Instr.index 23 (.agg L) (.int .i64 k)).run Try.prog w' = .ok (.int .u8 ((l.getD k 0).toNat : Int)) w' := fun w' =>
        run_index_arr w' 23 5 32 L .i64 .u8 k _ Try.underlying23 Try.underlying5 (by kernel_rfl) hlt (HG.out k hlt)
      have hx := (l.getD k 0).toNat_lt
      have HT := Lib.hid (hexL_take l k (by rw [HL.out]; exact hlt))
      obtain ⟨x, hxx⟩ : ∃ x, x = (l.getD k 0).toNat := ⟨_, rfl⟩
      rw [← hxx] at IXA hx HT
      obtain ⟨q1, hq1⟩ : ∃ q, q = x / 16 := ⟨_, rfl⟩
      obtain ⟨q2, hq2⟩ : ∃ q, q = x % 16 := ⟨_, rfl⟩
      rw [← hq1, ← hq2] at HT
      have D1 := fun w' => digit_idx q1 (by omega) w'
      have D2 := fun w' => digit_idx q2 (by omega) w'
      have e1 : (x : Int) / 16 = (q1 : Int) := by omega
      have e2 : bits .and .u8 (x : Int) 15 = (q2 : Int) := by
        have h := u8_and_nat x 15 hx (by omega)
        rw [hq2, ← Nat.and_two_pow_sub_one_eq_mod x 4]
        exact h
      clear hxx hq1 hq2
      go_wp2_with fail
      refine wp_region_held_drew (S := fun _ => True) (by kernel_rfl) trivial (fun hHeld => ?_)
      refine wpAnyH_take (i := 0) (v := ?_) rfl (by kernel_rfl) (by kernel_rfl) (by kernel_rfl) (fun _ _ _ h => h) (Or.inl ⟨by first | kernel_rfl | rfl, ?_⟩) (by assumption) ?_
      case refine_2 => intro w hSw; go_simp; try with_reducible rfl
      refine wpAnyH_take (i := 1) (v := ?_) rfl (by kernel_rfl) (by kernel_rfl) (by kernel_rfl) (fun _ _ _ h => h) (Or.inl ⟨by first | kernel_rfl | rfl, ?_⟩) (by assumption) ?_
      case refine_2 => intro w hSw; go_simp; try with_reducible rfl
      refine wpAnyH_take (i := 2) (v := ?_) rfl (by kernel_rfl) (by kernel_rfl) (by kernel_rfl) (fun _ _ _ h => h) (Or.inl ⟨by first | kernel_rfl | rfl, ?_⟩) (by assumption) ?_
      case refine_2 => intro w hSw; go_simp; try with_reducible rfl
      refine wpAnyH_take (i := 3) (v := ?_) rfl (by kernel_rfl) (by kernel_rfl) (by kernel_rfl) (fun _ _ _ h => h) (Or.inl ⟨by first | kernel_rfl | rfl, ?_⟩) (by assumption) ?_
      case refine_2 => intro w hSw; go_simp; try with_reducible rfl
      refine wpAnyH_take (i := 4) (v := ?_) rfl (by kernel_rfl) (by kernel_rfl) (by kernel_rfl) (fun _ _ _ h => h) (Or.inl ⟨by first | kernel_rfl | rfl, ?_⟩) (by assumption) ?_
      case refine_2 => intro w hSw; go_simp; try with_reducible rfl
      refine wpAnyH_take (i := 5) (v := ?_) rfl (by kernel_rfl) (by kernel_rfl) (by kernel_rfl) (fun _ _ _ h => h) (Or.inl ⟨by first | kernel_rfl | rfl, ?_⟩) (by assumption) ?_
      case refine_2 => intro w hSw; go_simp; try with_reducible rfl
      refine wpAnyH_take (i := 6) (v := ?_) rfl (by kernel_rfl) (by kernel_rfl) (by kernel_rfl) (fun _ _ _ h => h) (Or.inl ⟨by first | kernel_rfl | rfl, ?_⟩) (by assumption) ?_
      case refine_2 => intro w hSw; go_simp; try with_reducible rfl
      refine wpAnyH_ready (rs := [7]) (by kernel_rfl) (by simp) (AllReadyH.cons rfl (fun K hK => ?_) AllReadyH.nil)
      go_simp
      refine hK.out _ _ trivial (fun _ => ?_)
      clear hK K
      refine wpAnyH_ready (rs := [8]) (by kernel_rfl) (by simp) (AllReadyH.cons rfl (fun K hK => ?_) AllReadyH.nil)
      rw [if_pos (by rfl)]
      refine wp_append_own _ (.tmp 11) (.tmp 18) 46 rfl (w.heap.size + 1) 5 ui (.int .u8 0) 1 1 Try.underlying46 hu huz hu1 hu2 rfl (by decide) v (2 * k) _ rfl (HOD.out.alloc _) ⟨wr.drew.heap.size, 0, none⟩ 2 2 [.int .u8 ((hexD q1).toNat : Int), .int .u8 ((hexD q2).toNat : Int)] rfl rfl ?d1 ?d2 ?d3 ?d4 ?d5 ?d6
      case d1 => exact cells_new _ _ _
      case d2 => intro u hu; simp only [List.mem_cons, List.not_mem_nil, or_false] at hu; rcases hu with rfl | rfl <;> rfl
      case d3 => unfold maxLen; omega
      case d4 => omega
      case d5 => have := HBS.out; show w.heap.size + 1 ≤ (wr.heap.push _).size; simp; omega
      intro v' w4 hown4 hg4 _
      have h6 : Below w.heap.size w w4 := ((HB.out.drew).alloc HB.out.size _).grown hg4 (by have := HB.out.size; show w.heap.size ≤ (wr.heap.push _).size; simp; omega) (fun k hk => Nat.le_of_succ_le (HOD.out.lt k hk).1)
      have hs6 : w.heap.size + 1 ≤ w4.heap.size := Nat.le_trans (by have := HBS.out; show w.heap.size + 1 ≤ (wr.heap.push _).size; simp; omega) hg4.size
      refine hK.out _ _ trivial (fun _ => ?_)
      clear hK K
      refine wpAnyH_ready (rs := [9]) (by kernel_rfl) (by simp) (AllReadyH.cons rfl (fun K hK => ?_) AllReadyH.nil)
      go_simp
      refine hK.out _ _ trivial (fun _ => ?_)
      clear hK K
      refine wpAnyH_done (by kernel_rfl) ?_ _
      go_wp2
      go_roundw
      case rel => exact ⟨k + 1, _, by omega, by go_num, rfl, by rw [HT.out, byteV_append]; exact hown4, h6, hs6⟩
      case measure => simp [intOf]; omega
    · obtain rfl : k = 32 := by omega
      have hall : l.take 32 = l := List.take_of_length_le (by rw [HL.out]; exact Nat.le_refl _)
      have hO := HO.out
      rw [hall] at hO
      have hl64 : (hexL l).length = 64 := by rw [hexL_len, HL.out]
      rcases hO.2 with ⟨_, h0⟩ | ⟨g, cap, cur, rfl, hbg, hgg, _, _, _, htake⟩
      · omega
      have CV := conv_bytes (P := Try.prog) wr 46 9 5 g 64 cap (hexL l) hl64 Try.underlying46 Try.underlying5 Try.underlying9 (fun j hj => by
        rw [cell_of_row _ _ j _ _ _ hgg, ← Array.getElem?_toList]
        have h1 : (cur.toList.take (2 * 32 * 1))[j]? = (byteV (hexL l))[j]? := by rw [htake]
        rw [List.getElem?_take, if_pos (by omega)] at h1
        rw [h1]
        simp [byteV, List.getElem?_eq_getElem hj])
      clear hO HO HOD hgg htake
      go_wp2
      go_ret
      exact ⟨rfl, HB.out⟩

end Go.Proofs.Ythgjooacapodnaa
