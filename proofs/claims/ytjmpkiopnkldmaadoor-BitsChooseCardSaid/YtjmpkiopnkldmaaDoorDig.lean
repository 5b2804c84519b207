/- A number below 100, appended in decimal to a row of bytes that the caller owns. -/
import Derived.Test.YtjmpkiopnkldmaaDoorAll
import Derived.Lib.AppendStr
namespace Go.Proofs.YtjmpkiopnkldmaaDoor
open Go.RowKit
/-- A number below 100 in decimal. -/
def dig (i : Nat) : List UInt8 := if i < 10 then [UInt8.ofNat (48 + i)] else [UInt8.ofNat (48 + i / 10), UInt8.ofNat (48 + i % 10)]
/-- Bytes as a row's cells. -/
def rowOf (bs : List UInt8) : List Value := bs.map fun b => Value.int .u8 b.toNat
theorem rowOf_str (bs : List UInt8) : Lib.strCells ⟨bs.toArray⟩ = rowOf bs := by simp [Lib.strCells, rowOf]
theorem rowOf_append (a b : List UInt8) : rowOf (a ++ b) = rowOf a ++ rowOf b := by simp [rowOf]
theorem dig_len (i : Nat) : 1 ≤ (dig i).length ∧ (dig i).length ≤ 2 := by unfold dig; split <;> simp
theorem ret_str {a b : ByteArray} (h : a.data = b.data) : Ending.returned (.string a) = .returned (.string b) := by rw [ByteArray.ext h]
set_option maxRecDepth 100000 in
theorem tabA : ∀ i : Fin 10, ((⟨#[48, 49, 50, 51, 52, 53, 54, 55, 56, 57, 97, 98, 99, 100, 101, 102, 103, 104, 105, 106, 107, 108, 109, 110, 111, 112, 113, 114, 115, 116, 117, 118, 119, 120, 121, 122]⟩ : ByteArray).extract i.val (i.val + 1)).data = (dig i.val).toArray := by decide +kernel
set_option maxRecDepth 100000 in
theorem tabB : ∀ i : Fin 100, 10 ≤ i.val → ((⟨#[48, 48, 48, 49, 48, 50, 48, 51, 48, 52, 48, 53, 48, 54, 48, 55, 48, 56, 48, 57, 49, 48, 49, 49, 49, 50, 49, 51, 49, 52, 49, 53, 49, 54, 49, 55, 49, 56, 49, 57, 50, 48, 50, 49, 50, 50, 50, 51, 50, 52, 50, 53, 50, 54, 50, 55, 50, 56, 50, 57, 51, 48, 51, 49, 51, 50, 51, 51, 51, 52, 51, 53, 51, 54, 51, 55, 51, 56, 51, 57, 52, 48, 52, 49, 52, 50, 52, 51, 52, 52, 52, 53, 52, 54, 52, 55, 52, 56, 52, 57, 53, 48, 53, 49, 53, 50, 53, 51, 53, 52, 53, 53, 53, 54, 53, 55, 53, 56, 53, 57, 54, 48, 54, 49, 54, 50, 54, 51, 54, 52, 54, 53, 54, 54, 54, 55, 54, 56, 54, 57, 55, 48, 55, 49, 55, 50, 55, 51, 55, 52, 55, 53, 55, 54, 55, 55, 55, 56, 55, 57, 56, 48, 56, 49, 56, 50, 56, 51, 56, 52, 56, 53, 56, 54, 56, 55, 56, 56, 56, 57, 57, 48, 57, 49, 57, 50, 57, 51, 57, 52, 57, 53, 57, 54, 57, 55, 57, 56, 57, 57]⟩ : ByteArray).extract (i.val * 2) (i.val * 2 + 2)).data = (dig i.val).toArray := by decide +kernel
set_option maxRecDepth 100000 in
set_option maxHeartbeats 400000 in
theorem smallA (i : Nat) (h : i < 10) (w : World) :
    Calls Tryd.prog 34 #[.int .i64 i] w fun e w' => e = .returned (.string ⟨(dig i).toArray⟩) ∧ w' = w := by
  go_enter Tryd.func34, Tryd.ntmps34
  go_wp2
  go_ret
  exact ⟨ret_str (tabA ⟨i, h⟩), rfl⟩
set_option maxRecDepth 100000 in
set_option maxHeartbeats 400000 in
theorem smallB (i : Nat) (h : 10 ≤ i) (h2 : i < 100) (w : World) :
    Calls Tryd.prog 34 #[.int .i64 i] w fun e w' => e = .returned (.string ⟨(dig i).toArray⟩) ∧ w' = w := by
  go_enter Tryd.func34, Tryd.ntmps34
  go_wp2
  go_ret
  exact ⟨ret_str (tabB ⟨i, h2⟩ h), rfl⟩
theorem small1 (i : Nat) (h2 : i < 100) (w : World) :
    Calls Tryd.prog 34 #[.int .i64 i] w fun e w' => e = .returned (.string ⟨(dig i).toArray⟩) ∧ w' = w := by
  by_cases h : i < 10
  · exact smallA i h w
  · exact smallB i (by omega) h2 w
theorem info8 : (Tryd.prog.info? 5).map (fun i => (i.zero, i.size, i.bytes)) = some (some (.int .u8 0), 1, 1) := by kernel_rfl
set_option maxRecDepth 100000 in
set_option maxHeartbeats 1000000 in
theorem appU (base u : Nat) (hu : u < 100) (v : Value) (n : Nat) (xs : List Value) (w : World) (hown : w.ownsRow base 5 1 v n xs) (hn : n ≤ 1000) (hbase : base ≤ w.heap.size) :
    Calls Tryd.prog 33 #[v, .int .u64 u, .int .i64 10] w fun e w' => ∃ v', e = .returned v' ∧ w'.ownsRow base 5 1 v' (n + (dig u).length) (xs ++ rowOf (dig u)) ∧ w.grownBy w' v.ownBlock := by
  have hl := dig_len u
  obtain ⟨i0, hi, hz0, hz1, hz2⟩ := info_parts info8
  have hsz : (⟨(dig u).toArray⟩ : ByteArray).size = (dig u).length := by simp [ByteArray.size]
  go_enter Tryd.func33, Tryd.ntmps33
  go_wp2_with (first | (go_at_call 34; refine (small1 u hu _).mono ?_; rintro e w1 ⟨rfl, rfl⟩) | (at_builtin; refine Lib.wpList_append_own_string _ rfl _ _ 48 9 rfl base 5 i0 Tryd.underlying48 Tryd.underlying9 hi hz0 hz1 hz2 v n xs rfl hown _ rfl ?_ ?_ hbase ?_))
  case refine_1 => unfold maxLen; rw [hsz]; omega
  case refine_2 => rw [hsz]; omega
  case refine_3 =>
    intro v' w' ho hg _
    go_wp2
    go_ret
    exact ⟨_, rfl, by rw [← rowOf_str]; exact ho, hg⟩
set_option maxRecDepth 100000 in
set_option maxHeartbeats 1000000 in
theorem appI (base u : Nat) (hu : u < 100) (v : Value) (n : Nat) (xs : List Value) (w : World) (hown : w.ownsRow base 5 1 v n xs) (hn : n ≤ 1000) (hbase : base ≤ w.heap.size) :
    Calls Tryd.prog 32 #[v, .int .i64 u, .int .i64 10] w fun e w' => ∃ v', e = .returned v' ∧ w'.ownsRow base 5 1 v' (n + (dig u).length) (xs ++ rowOf (dig u)) ∧ w.grownBy w' v.ownBlock := by
  go_enter Tryd.func32, Tryd.ntmps32
  go_wp2_with (go_at_call 33; refine (appU base u hu v n xs _ hown hn hbase).mono ?_; rintro e w1 ⟨v', rfl, ho, hg⟩)
  go_ret
  exact ⟨_, rfl, ho, hg⟩
set_option maxRecDepth 100000 in
set_option maxHeartbeats 1000000 in
theorem appInt (base u : Nat) (hu : u < 100) (v : Value) (n : Nat) (xs : List Value) (w : World) (hown : w.ownsRow base 5 1 v n xs) (hn : n ≤ 1000) (hbase : base ≤ w.heap.size) :
    Calls Tryd.prog 30 #[v, .int .i64 u, .int .i64 10] w fun e w' => ∃ v', e = .returned v' ∧ w'.ownsRow base 5 1 v' (n + (dig u).length) (xs ++ rowOf (dig u)) ∧ w.grownBy w' v.ownBlock := by
  go_enter Tryd.func30, Tryd.ntmps30
  go_wp2_with (go_at_call 32; refine (appI base u hu v n xs _ hown hn hbase).mono ?_; rintro e w1 ⟨v', rfl, ho, hg⟩)
  go_ret
  exact ⟨_, rfl, ho, hg⟩
end Go.Proofs.YtjmpkiopnkldmaaDoor
