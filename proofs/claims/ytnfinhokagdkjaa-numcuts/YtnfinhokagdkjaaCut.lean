/- num.Cut and the page's own: what each answers, at 8, 16 and 32 bits, with a sign and without, for every number. -/
import Derived.Test.YtnfinhokagdkjaaTake
namespace Go.Proofs.Ytnfinhokagdkjaa
open Go.RowKit
set_option linter.unusedVariables false

theorem mask8 (n : Int) : bits .and .u64 (IntKind.u64.wrap n) 255 = n % 256 := and_mask 8 (by decide) n
theorem mask16 (n : Int) : bits .and .u64 (IntKind.u64.wrap n) 65535 = n % 65536 := and_mask 16 (by decide) n
theorem mask32 (n : Int) : bits .and .u64 (IntKind.u64.wrap n) 4294967295 = n % 4294967296 := and_mask 32 (by decide) n
theorem wrap_i8 (n : Int) : IntKind.i8.wrap n = (n + 128) % 256 - 128 := by
  simp only [IntKind.wrap, IntKind.bits, IntKind.signed]; simp; split <;> omega
theorem wrap_i16 (n : Int) : IntKind.i16.wrap n = (n + 32768) % 65536 - 32768 := by
  simp only [IntKind.wrap, IntKind.bits, IntKind.signed]; simp; split <;> omega

/-- What stands above 8 bits is filled with ones. -/
theorem fill8 (n : Int) : bits .or .u64 (n % 256) (IntKind.u64.wrap 4722366482869645213440) = n % 256 + 18446744073709551360 := by
  rw [IntKind.wrap_u64, show (4722366482869645213440 : Int) % 18446744073709551616 = 18446744073709551360 by decide, or_join 8 18446744073709551360 (n % 256) (by decide) (by decide) (by decide) (by omega) (by omega) (by omega)]; omega

/-- What stands above 16 bits is filled with ones. -/
theorem fill16 (n : Int) : bits .or .u64 (n % 65536) (IntKind.u64.wrap 1208925819614629174640640) = n % 65536 + 18446744073709486080 := by
  rw [IntKind.wrap_u64, show (1208925819614629174640640 : Int) % 18446744073709551616 = 18446744073709486080 by decide, or_join 16 18446744073709486080 (n % 65536) (by decide) (by decide) (by decide) (by omega) (by omega) (by omega)]; omega

/-- What stands above 32 bits is filled with ones. -/
theorem fill32 (n : Int) : bits .or .u64 (n % 4294967296) (IntKind.u64.wrap 79228162514264337589248983040) = n % 4294967296 + 18446744069414584320 := by
  rw [IntKind.wrap_u64, show (79228162514264337589248983040 : Int) % 18446744073709551616 = 18446744069414584320 by decide, or_join 32 18446744069414584320 (n % 4294967296) (by decide) (by decide) (by decide) (by omega) (by omega) (by omega)]; omega

theorem cut_8f (n : Int) (w : World) : Calls Try.prog 15 #[.int .i64 n, .int .i64 8, .bool false] w fun e w' => e = .returned (.tuple #[.int .i64 (n % 256), .int .i64 0]) ∧ w' = w := by
  go_enter Try.func15, Try.ntmps15
  go_wp2
  go_ret2
  exact ⟨rfl, rfl⟩
theorem rcut_8f (n : Int) (w : World) : Calls Try.prog 16 #[.int .i64 n, .int .i64 8, .bool false] w fun e w' => e = .returned (.int .i64 (n % 256)) ∧ w' = w := by
  have hm := mask8 n
  go_enter Try.func16, Try.ntmps16
  go_wp2
  go_ret
  exact ⟨rfl, rfl⟩

theorem cut_16f (n : Int) (w : World) : Calls Try.prog 15 #[.int .i64 n, .int .i64 16, .bool false] w fun e w' => e = .returned (.tuple #[.int .i64 (wrap64 (IntKind.u16.wrap n)), .int .i64 0]) ∧ w' = w := by
  go_enter Try.func15, Try.ntmps15
  go_wp2
  go_ret2
  exact ⟨rfl, rfl⟩
theorem rcut_16f (n : Int) (w : World) : Calls Try.prog 16 #[.int .i64 n, .int .i64 16, .bool false] w fun e w' => e = .returned (.int .i64 (wrap64 (IntKind.u16.wrap n))) ∧ w' = w := by
  have hm := mask16 n
  have H : Hid (n % 65536 = wrap64 (IntKind.u16.wrap n)) := by unfold Hid wrap64; rw [IntKind.wrap_u16]; omega
  go_enter Try.func16, Try.ntmps16
  go_wp2
  go_ret
  exact ⟨ret_int H.out, rfl⟩

theorem cut_32f (n : Int) (w : World) : Calls Try.prog 15 #[.int .i64 n, .int .i64 32, .bool false] w fun e w' => e = .returned (.tuple #[.int .i64 (n % 4294967296), .int .i64 0]) ∧ w' = w := by
  go_enter Try.func15, Try.ntmps15
  go_wp2
  go_ret2
  exact ⟨rfl, rfl⟩
theorem rcut_32f (n : Int) (w : World) : Calls Try.prog 16 #[.int .i64 n, .int .i64 32, .bool false] w fun e w' => e = .returned (.int .i64 (n % 4294967296)) ∧ w' = w := by
  have hm := mask32 n
  go_enter Try.func16, Try.ntmps16
  go_wp2
  go_ret
  exact ⟨rfl, rfl⟩

theorem cut_8t (n : Int) (w : World) : Calls Try.prog 15 #[.int .i64 n, .int .i64 8, .bool true] w fun e w' => e = .returned (.tuple #[.int .i64 (wrap64 (IntKind.i8.wrap n)), .int .i64 0]) ∧ w' = w := by
  go_enter Try.func15, Try.ntmps15
  go_wp2
  go_ret2
  exact ⟨rfl, rfl⟩
theorem rcut_8t (n : Int) (w : World) : Calls Try.prog 16 #[.int .i64 n, .int .i64 8, .bool true] w fun e w' => e = .returned (.int .i64 (wrap64 (IntKind.i8.wrap n))) ∧ w' = w := by
  have hm := mask8 n
  have hf := fill8 n
  by_cases h : n % 256 < 128
  · have ht : (n % 256 / 128 == 1) = false := by simp; omega
    have H : Hid (n % 256 = wrap64 (IntKind.i8.wrap n)) := by unfold Hid wrap64; rw [wrap_i8]; omega
    clear h hf
    go_enter Try.func16, Try.ntmps16
    go_wp2
    go_ret
    exact ⟨ret_int H.out, rfl⟩
  · have ht : (n % 256 / 128 == 1) = true := by simp; omega
    have H : Hid (wrap64 (n % 256 + 18446744073709551360) = wrap64 (IntKind.i8.wrap n)) := by unfold Hid wrap64; rw [wrap_i8]; omega
    clear h
    go_enter Try.func16, Try.ntmps16
    go_wp2
    go_ret
    exact ⟨ret_int H.out, rfl⟩

theorem cut_16t (n : Int) (w : World) : Calls Try.prog 15 #[.int .i64 n, .int .i64 16, .bool true] w fun e w' => e = .returned (.tuple #[.int .i64 (wrap64 (IntKind.i16.wrap n)), .int .i64 0]) ∧ w' = w := by
  go_enter Try.func15, Try.ntmps15
  go_wp2
  go_ret2
  exact ⟨rfl, rfl⟩
theorem rcut_16t (n : Int) (w : World) : Calls Try.prog 16 #[.int .i64 n, .int .i64 16, .bool true] w fun e w' => e = .returned (.int .i64 (wrap64 (IntKind.i16.wrap n))) ∧ w' = w := by
  have hm := mask16 n
  have hf := fill16 n
  by_cases h : n % 65536 < 32768
  · have ht : (n % 65536 / 32768 == 1) = false := by simp; omega
    have H : Hid (n % 65536 = wrap64 (IntKind.i16.wrap n)) := by unfold Hid wrap64; rw [wrap_i16]; omega
    clear h hf
    go_enter Try.func16, Try.ntmps16
    go_wp2
    go_ret
    exact ⟨ret_int H.out, rfl⟩
  · have ht : (n % 65536 / 32768 == 1) = true := by simp; omega
    have H : Hid (wrap64 (n % 65536 + 18446744073709486080) = wrap64 (IntKind.i16.wrap n)) := by unfold Hid wrap64; rw [wrap_i16]; omega
    clear h
    go_enter Try.func16, Try.ntmps16
    go_wp2
    go_ret
    exact ⟨ret_int H.out, rfl⟩

theorem cut_32t (n : Int) (w : World) : Calls Try.prog 15 #[.int .i64 n, .int .i64 32, .bool true] w fun e w' => e = .returned (.tuple #[.int .i64 (wrap64 (wrap32 n)), .int .i64 0]) ∧ w' = w := by
  go_enter Try.func15, Try.ntmps15
  go_wp2
  go_ret2
  exact ⟨rfl, rfl⟩
theorem rcut_32t (n : Int) (w : World) : Calls Try.prog 16 #[.int .i64 n, .int .i64 32, .bool true] w fun e w' => e = .returned (.int .i64 (wrap64 (wrap32 n))) ∧ w' = w := by
  have hm := mask32 n
  have hf := fill32 n
  by_cases h : n % 4294967296 < 2147483648
  · have ht : (n % 4294967296 / 2147483648 == 1) = false := by simp; omega
    have H : Hid (n % 4294967296 = wrap64 (wrap32 n)) := by unfold Hid wrap64; unfold wrap32; omega
    clear h hf
    go_enter Try.func16, Try.ntmps16
    go_wp2
    go_ret
    exact ⟨ret_int H.out, rfl⟩
  · have ht : (n % 4294967296 / 2147483648 == 1) = true := by simp; omega
    have H : Hid (wrap64 (n % 4294967296 + 18446744069414584320) = wrap64 (wrap32 n)) := by unfold Hid wrap64; unfold wrap32; omega
    clear h
    go_enter Try.func16, Try.ntmps16
    go_wp2
    go_ret
    exact ⟨ret_int H.out, rfl⟩
end Go.Proofs.Ytnfinhokagdkjaa
