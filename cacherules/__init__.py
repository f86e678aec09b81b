"""What a cache keeps, by five rules."""
